package house_test

import (
	"fmt"
	"strings"
	"testing"

	"warpbeam/api"
	"warpbeam/house"
)

// P10.3: each note has a line, and each line of a program one of its own.
func TestText(t *testing.T) {
	l := notes(
		put("a", 1, 0, "p", chain),
		put("a", 2, 0, "q", ""),
		put("a", 3, 4, "p_2", "\n"),
		put("a", 1_000_000, api.End-1, "p", "\n\n# é\x00\xff\t|\n\narray a[1];\n"),
		move("a-b_0", 7, 8, "p", "q", api.MoveExchange, 0, 0),
		move("a-b_0", 8, 8, "p", "q", api.MoveReverse, 300, -1_000_000),
		move("a-b_0", 9, 8, "p", "q", api.MoveFuse, 1, 1_000_000),
		move("a-b_0", 10, 8, "p", "q", api.MoveSplit, 2, -3),
		move("a-b_0", 11, 8, "p", "q", api.MoveShift, 3, 4),
		move("a-b_0", 12, 8, "p", "q", api.MoveSkew, 4, 5),
		drop("for", 2, 9, "put"),
	)
	const text = `a 1 0 put p 4
|array a[9];
|for i = 1 .. 3 {
|  s: a[i] = a[i - 1] + 1;
|}
a 2 0 put q 0
a 3 4 put p_2 1
|
a 1000000 345686399999 put p 5
|
|
|# é` + "\x00\xff\t" + `|
|
|array a[1];
a-b_0 7 8 move p q exchange 0 0
a-b_0 8 8 move p q reverse 300 -1000000
a-b_0 9 8 move p q fuse 1 1000000
a-b_0 10 8 move p q split 2 -3
a-b_0 11 8 move p q shift 3 4
a-b_0 12 8 move p q skew 4 5
for 2 9 drop put
`
	s, e := house.Text(l)
	same(t, "Text", []any{s, e}, []any{text, api.OK})
	back, line, e := house.Read(text)
	same(t, "Read", []any{back, line, e}, []any{l, 0, api.OK})
	s, e = house.Text(nil)
	same(t, "no notes", []any{s, e}, []any{"", api.OK})
	back, line, e = house.Read("")
	same(t, "no notes", []any{len(back), line, e}, []any{0, 0, api.OK})
}

// P10.3: a Text without a line feed at its end counts as if it had one.
func TestTextsWithoutEnds(t *testing.T) {
	for _, c := range []struct{ text, lines, read string }{
		{"array a[1];", "1\n|array a[1];\n", "array a[1];\n"},
		{"\narray a[1];\n\n#", "4\n|\n|array a[1];\n|\n|#\n", "\narray a[1];\n\n#\n"},
		{" ", "1\n| \n", " \n"},
		{"\n ", "2\n|\n| \n", "\n \n"},
		{"\n\n", "2\n|\n|\n", "\n\n"},
	} {
		s, e := house.Text(notes(put("d", 1, 2, "p", c.text)))
		same(t, c.text, []any{s, e}, []any{"d 1 2 put p " + c.lines, api.OK})
		l, line, e := house.Read(s)
		same(t, c.text, []any{l, line, e}, []any{notes(put("d", 1, 2, "p", c.read)), 0, api.OK})
	}
}

// readError is a text that is none, and the line and the error.
func readError(t *testing.T, text string, line int, want api.Errno) {
	t.Helper()
	l, at, e := house.Read(text)
	same(t, fmt.Sprintf("%q", short(text)), []any{len(l), at, e}, []any{0, line, want})
}

// wrongLines are lines that are none.
func wrongLines() []string {
	l := []string{
		"", " ", "d", "d 1", "d 1 0", "d 1 0 put", "d 1 0 put p", "d 1 0 put p 0 0", "d 1 0 drop", "d 1 0 drop p 0", "d 1 0 drop p q", "put", "drop", "|", "|#", "# a",
		"d 1 0 move", "d 1 0 move p q", "d 1 0 move p q reverse", "d 1 0 move p q reverse 0", "d 1 0 move p q reverse 0 0 0", "d 1 0 move p reverse 0 0", "d 1 0 move p q r reverse 0 0",
		"d 1 0 move p q strip 0 0", "d 1 0 move p q Reverse 0 0", "d 1 0 move p q reversed 0 0", "d 1 0 move p q revers 0 0", "d 1 0 move p q 2 0 0", "d 1 0 move p q put 0 0", "d 1 0 move p q  0 0",
		"d 1 0 Put p 0", "d 1 0 puts p 0", "d 1 0 pu p 0", "d 1 0 1 p 0", "d 1 0  p 0", "d 1 0 reverse p 0", "d 1 0 name p", "d 1 put 0 p 0", "put d 1 0 p 0", "d 1 0\r drop p", "d 1 0 drop\r p", "d 1 0 drop p ",
		" d 1 0 drop p", "d  1 0 drop p", "d 1  0 drop p", "d 1 0  drop p", "d 1 0 drop  p", "d\t1 0 drop p", " 1 0 drop p", "d 1 0 drop ", "d 1 0 put  0", "d 1 0 move  q reverse 0 0", "d 1 0 move p  reverse 0 0",
		"d  0 drop p", "d 1  drop p", "d 1 0 put p -1", "d 1 0 put p -999999999999999",
	}
	for _, n := range []string{"", "01", "00", "-0", "+1", "--1", "1.", "0x1", "1_0", "a", "１", "-", "-01", "1e3", "1000000000000000", "-1000000000000000", "99999999999999999999"} {
		l = append(l, "d "+n+" 0 drop p", "d 1 "+n+" drop p", "d 1 0 put p "+n, "d 1 0 move p q shift "+n+" 0", "d 1 0 move p q shift 0 "+n)
	}
	return l
}

// P10.3: lines that are none.
func TestReadWantsTheFormOfText(t *testing.T) {
	for _, line := range wrongLines() {
		readError(t, line+"\n", 0, api.ErrSyntax)
		readError(t, "d 1 0 put p 2\n|\n|\n"+line+"\ne 1 0 drop p\n", 3, api.ErrSyntax)
		// The first line that is none counts, and lines go before the checks.
		readError(t, "D 0 -1 drop 1\n"+line+"\nlook\n", 1, api.ErrSyntax)
	}
	for _, line := range []string{"d 1 0 drop p", "d 1 0 put p 0", "d 1 0 put p 1", "d 1 0 move p q reverse 0 0", "look", " ", "|"} {
		// A line without its end is none.
		readError(t, line, 0, api.ErrSyntax)
		readError(t, "d 1 0 drop p\nd 2 0 put p 1\n|\n"+line, 3, api.ErrSyntax)
	}
	readError(t, "\n", 0, api.ErrSyntax)
	readError(t, "d 1 0 drop p\n\n", 1, api.ErrSyntax)
	readError(t, "d 1 0 drop p\n\nd 2 0 drop p", 1, api.ErrSyntax)
	readError(t, "d 1 0 put p 0\r\n", 0, api.ErrSyntax)
}

// P10.3: lines of a program.
func TestReadWantsAllLinesOfPrograms(t *testing.T) {
	const head = "c 1 0 drop p\nd 1 0 put p 3\n"
	for _, c := range []struct {
		text string
		line int
	}{
		{"", 2}, {"|\n", 3}, {"|\n|\n", 4}, {"|", 2}, {"|\n|", 3}, {"|\n|\n|", 4}, {"|\n|\n|\n|\n", 5}, {"|\n|\n|\n|", 5}, {"x\n|\n|\n", 2}, {"|\n\n|\n", 3}, {"|\n|\n |\n", 4}, {"|\n|\n\n", 4},
		{"|\n|\nd 2 0 drop p\n", 4}, {"|\n|\nx", 4}, {"d 2 0 drop p\n", 2}, {"|\n|\n|\n\n", 5}, {"\n", 2}, {" |\n", 2},
	} {
		readError(t, head+c.text, c.line, api.ErrSyntax)
	}
	readError(t, "d 1 0 put p 1\n", 1, api.ErrSyntax)
	readError(t, "d 1 0 put p 0\n|\n", 1, api.ErrSyntax)
	readError(t, "d 1 0 put p 999999999999999\n|\n|\n", 3, api.ErrSyntax)
	readError(t, "d 1 0 drop p\n|\n", 1, api.ErrSyntax)
	readError(t, "d 1 0 move p q reverse 0 0\n|\n", 1, api.ErrSyntax)
	l, line, e := house.Read(head + "||\n| \n|#| \ne 2 1 drop q\n")
	same(t, "marks", []any{len(l), line, e}, []any{0, 0, api.ErrSyntax}) // of the program, whose first word is |
	l, line, e = house.Read(head + "|#|\n| \n|#| \ne 2 1 drop q\n")
	same(t, "marks", []any{l, line, e}, []any{notes(drop("c", 1, 0, "p"), put("d", 1, 0, "p", "#|\n \n#| \n"), drop("e", 2, 1, "q")), 0, api.OK})
}

// P10.3: words and numbers that are read are checked then.
func TestReadChecks(t *testing.T) {
	for _, c := range []struct {
		text string
		want api.Errno
	}{
		{"D 1 0 drop p\n", api.ErrName}, {"1 1 0 drop p\n", api.ErrName}, {"\xff 1 0 drop p\n", api.ErrName}, {"d\t 1 0 drop p\n", api.ErrName}, {"d 1 0 drop P\n", api.ErrName}, {"d 1 0 drop for\n", api.ErrName}, {"d 1 0 drop p\r\n", api.ErrName}, {"|d 1 0 drop p\n", api.ErrName}, {"d 1 0 move p q-r shift 0 0\n", api.ErrName},
		{"d 0 0 drop p\n", api.ErrArg}, {"d -1 0 drop p\n", api.ErrArg}, {"d 1000001 0 drop p\n", api.ErrArg}, {"d 999999999999999 0 drop p\n", api.ErrArg}, {"d -999999999999999 0 drop p\n", api.ErrArg},
		{"d 1 -1 drop p\n", api.ErrArg}, {"d 1 345686400000 drop p\n", api.ErrArg}, {"d 1 999999999999999 drop p\n", api.ErrArg}, {"d 1 0 move p q shift 301 0\n", api.ErrArg}, {"d 1 0 move p q shift -1 0\n", api.ErrArg},
		{"d 1 0 move p q shift 0 1000001\n", api.ErrArg}, {"d 1 0 move p q shift 0 -1000001\n", api.ErrArg}, {"d 1 0 move p q shift 0 -999999999999999\n", api.ErrArg},
		{"d 1 0 put p 1\n|?\n", api.ErrSyntax}, {"d 1 0 put p 1\n|array a[0];\n", api.ErrArg}, {"d 1 0 put p 1\n|s: a[0] = 1;\n", api.ErrNone},
		{"d 1 0 drop p\nd 1 0 drop p\n", api.ErrOrder}, {"d 2 0 drop p\nd 1 0 drop p\n", api.ErrOrder}, {"e 1 0 drop p\nd 1 0 drop p\n", api.ErrOrder}, {"d 1 1 drop p\nd 2 0 drop p\n", api.ErrOrder},
		{strings.Repeat("d 1 0 drop p\n", api.MaxNotes+1), api.ErrLarge}, {strings.Repeat("d 1 0 drop p\n", api.MaxNotes), api.ErrOrder},
	} {
		readError(t, c.text, 0, c.want)
	}
}

// P10.3: both end at MaxText bytes.
func TestLongTexts(t *testing.T) {
	for _, c := range []struct {
		more int
		want api.Errno
	}{{0, api.OK}, {1, api.ErrLarge}} {
		head := "d 1 0 put p 1\n|#"
		// 40,000 bytes and more, of which no program is too long.
		text := head + strings.Repeat("x", 25_000) + "\nd 2 0 put q 1\n|#"
		rest := api.MaxText + c.more - len(text) - 1
		text += strings.Repeat("y", rest) + "\n"
		l := notes(put("d", 1, 0, "p", "#"+strings.Repeat("x", 25_000)+"\n"), put("d", 2, 0, "q", "#"+strings.Repeat("y", rest)))
		s, e := house.Text(l)
		back, line, f := house.Read(text)
		l[1].Text += "\n"
		if c.want == api.OK {
			same(t, "long", []any{len(text), s == text, fmt.Sprint(back) == fmt.Sprint(l)}, []any{api.MaxText, true, true})
		} else {
			same(t, "too long", []any{s, len(back)}, []any{"", 0})
		}
		same(t, "long", []any{e, line, f}, []any{c.want, 0, c.want})
	}
	readError(t, strings.Repeat("?", api.MaxText+1), 0, api.ErrLarge)
	readError(t, strings.Repeat("?", api.MaxText), 0, api.ErrSyntax)
	readError(t, strings.Repeat("\n", api.MaxText+1), 0, api.ErrLarge)
	readError(t, "d 1 0 put p 60000\n"+strings.Repeat("|\n", 24_000), 24_001, api.ErrSyntax)
	// Notes are checked ahead of their text.
	var l []api.Note
	for i := range api.MaxNotes {
		l = append(l, put("d", i+1, 0, "p", "# "+strings.Repeat("x", api.MaxText-2)))
	}
	s, e := house.Text(l)
	same(t, "Text", []any{s, e}, []any{"", api.ErrLarge})
	l[len(l)-1].Name = "P"
	s, e = house.Text(l)
	same(t, "Text", []any{s, e}, []any{"", api.ErrName})
}
