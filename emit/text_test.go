package emit_test

import (
	"fmt"
	"strings"
	"testing"

	"warpbeam/api"
	"warpbeam/emit"
)

// P7.4: each instruction has a line.
func TestText(t *testing.T) {
	all := `set 0 -1000000
set 99 1000000
add 1 2 3
sub 99 98 97
mul 4 5 -6
div 7 8 1000
jump 16
less 9 10 0
load 59 11 12 19
store 13 14 15 0
take 16 17
plus 18 19 20
minus 21 22 23
times 24 25 26
wide 16
count 27 28 29
halt
`
	want := []api.Order{
		{Do: 2, A: 0, K: -1000000}, {Do: 2, A: 99, K: 1000000}, {Do: 3, A: 1, B: 2, C: 3}, {Do: 4, A: 99, B: 98, C: 97}, {Do: 5, A: 4, B: 5, K: -6}, {Do: 6, A: 7, B: 8, K: 1000},
		{Do: 7, K: 16}, {Do: 8, A: 9, B: 10, K: 0}, {Do: 9, A: 59, B: 11, C: 12, K: 19}, {Do: 10, A: 13, B: 14, C: 15, K: 0}, {Do: 11, A: 16, B: 17},
		{Do: 12, A: 18, B: 19, C: 20}, {Do: 13, A: 21, B: 22, C: 23}, {Do: 14, A: 24, B: 25, C: 26}, {Do: 15, K: 16}, {Do: 16, A: 27, B: 28, C: 29}, {Do: 1},
	}
	c, line, e := emit.Read(all)
	same(t, all, []any{c, line, e}, []any{want, 0, api.OK})
	text, e := emit.Text(want)
	same(t, "Text", []any{text, e}, []any{all, api.OK})
	c, line, e = emit.Read("")
	same(t, "empty", []any{len(c), line, e}, []any{0, 0, api.OK})
	text, e = emit.Text(nil)
	same(t, "empty", []any{text, e}, []any{"", api.OK})
}

// readError is a text that is none, and the line and the error.
func readError(t *testing.T, text string, line int, want api.Errno) {
	t.Helper()
	c, at, e := emit.Read(text)
	same(t, fmt.Sprintf("%q", short(text)), []any{len(c), at, e}, []any{0, line, want})
}

// P7.4: lines that are none.
func TestReadWantsTheFormOfText(t *testing.T) {
	for _, line := range []string{
		"", " ", "halt ", " halt", "halt 0", "Halt", "halts", "hal", "halt\r", "halt\x00", "set", "set 1", "set 1 2 3", "set  1 2", "set 1  2", "set 1 2 ", "set\t1 2", "set 1,2",
		"set 01 2", "set 1 02", "set 1 00", "set 1 -0", "set 1 +2", "set 1 - 2", "set 1 --2", "set 1 2.", "set 1 0x2", "set 1 2_0", "set 1 a", "set 1 ２", "set 1 -", "set 1 -01",
		"set 1 1000000000", "set 1 -1000000000", "set 1 99999999999999999999", "set 1 2; halt", "set 1 2 # a", "add 1 2", "add 1 2 3 4", "mul 1 2", "mul 1 2 3 4", "jump", "jump 0 0", "less 1 2",
		"load 1 2 3", "load 1 2 3 4 5", "store 1 2 3", "take 1", "take 1 2 0", "plus 1 2", "wide", "wide 1 2", "count 1 2", "count 1 2 3 4", "1", "set1 2", "loadx 1 2 3 4",
	} {
		readError(t, line+"\n", 0, api.ErrSyntax)
		readError(t, "halt\nset 1 2\n"+line+"\nhalt\n", 2, api.ErrSyntax)
		// The first line that is none counts, and lines go before the checks.
		readError(t, "set 200 1\n"+line+"\nlook\n", 1, api.ErrSyntax)
	}
	for _, word := range []string{"halt", "set 1 2", "look", " "} {
		// A line without its end is none.
		readError(t, word, 0, api.ErrSyntax)
		readError(t, "halt\nhalt\nhalt\n"+word, 3, api.ErrSyntax)
	}
	readError(t, "halt\n\nhalt", 1, api.ErrSyntax)
	readError(t, "\n", 0, api.ErrSyntax)
	readError(t, "halt\n\n", 1, api.ErrSyntax)
}

// P7.4: numbers with at most 9 digits are read, and then checked, as for 20 arrays.
func TestReadChecks(t *testing.T) {
	for _, c := range []struct {
		line string
		want api.Errno
	}{
		{"set 1 999999999", api.ErrArg}, {"set 1 -999999999", api.ErrArg}, {"set -1 0", api.ErrArg}, {"set 100 0", api.ErrArg}, {"take 60 0", api.ErrArg}, {"div 1 1 0", api.ErrArg},
		{"div 1 1 1001", api.ErrArg}, {"wide 0", api.ErrArg}, {"wide 17", api.ErrArg}, {"jump 1", api.ErrArg}, {"jump -1", api.ErrArg}, {"less 0 0 1", api.ErrArg}, {"load 0 0 0 20", api.ErrArg}, {"store 0 0 0 -1", api.ErrArg},
	} {
		readError(t, c.line+"\n", 0, c.want)
	}
	for _, line := range []string{"set 99 -1000000", "take 59 0", "div 1 1 1000", "wide 16", "jump 0", "load 0 0 0 19"} {
		c, at, e := emit.Read(line + "\n")
		same(t, line, []any{c, at, e}, []any{code(t, line), 0, api.OK})
	}
}

// P7.4: both end at MaxText bytes.
func TestLongTexts(t *testing.T) {
	// 12 and 5 bytes.
	long := strings.Repeat("set 1 10000\n", 4165)
	for _, c := range []struct {
		text string
		want api.Errno
	}{
		{long + strings.Repeat("halt\n", 4), api.OK}, {long + strings.Repeat("halt\n", 3) + "wide 1\n", api.ErrLarge},
	} {
		l := code(t, c.text)
		text, e := emit.Text(l)
		d, line, f := emit.Read(c.text)
		if c.want == api.OK {
			same(t, "long", []any{len(c.text), text == c.text, fmt.Sprint(d) == fmt.Sprint(l)}, []any{api.MaxText, true, true})
		} else {
			same(t, "too long", []any{text, len(d)}, []any{"", 0})
		}
		same(t, "long", []any{e, line, f}, []any{c.want, 0, c.want})
	}
	readError(t, strings.Repeat("?", api.MaxText+1), 0, api.ErrLarge)
	readError(t, strings.Repeat("?", api.MaxText), 0, api.ErrSyntax)
	readError(t, strings.Repeat("halt\n", api.MaxText/5-1)+"halt ", api.MaxText/5-1, api.ErrSyntax)
	// Code as long as it can be is checked ahead of its text.
	l := make([]api.Order, api.MaxCode)
	for i := range l {
		l[i] = api.Order{Do: api.DoHalt}
	}
	text, e := emit.Text(l)
	same(t, "Text", []any{text, e}, []any{"", api.ErrLarge})
	l[api.MaxCode-1].Do = 0
	text, e = emit.Text(l)
	same(t, "Text", []any{text, e}, []any{"", api.ErrKind})
}

// What follows: code is read as it was written.
func TestTextsAreReadBack(t *testing.T) {
	g := dice(4)
	for range 3000 {
		c := g.orders()
		text, e := emit.Text(c)
		same(t, fmt.Sprint(c), e, api.OK)
		d, line, e := emit.Read(text)
		same(t, text, []any{d, line, e}, []any{c, 0, api.OK})
		same(t, text, code(t, text), c)
	}
}
