package emit_test

import (
	"fmt"
	"strings"
	"testing"

	"warpbeam/api"
	"warpbeam/emit"
	"warpbeam/nest"
)

// same compares values as they are printed, as an empty list and a nil one are the same (Z5).
func same(t *testing.T, what string, got, want any) {
	t.Helper()
	if g, w := fmt.Sprintf("%+v", got), fmt.Sprintf("%+v", want); g != w {
		t.Errorf("%s: got %s, want %s", short(what), short(g), short(w))
	}
}

func short(s string) string {
	if len(s) > 900 {
		return s[:900] + " .."
	}
	return s
}

// program reads a text that has to be right.
func program(t *testing.T, text string) api.Program {
	t.Helper()
	p, at, e := nest.Read(text)
	if e != api.OK {
		t.Fatalf("Read(%q): %d, %v", short(text), at, e)
	}
	return p
}

// form reads a form that has to be right.
func form(t *testing.T, text string) api.Form {
	t.Helper()
	f, at, e := nest.ReadForm(text)
	if e != api.OK {
		t.Fatalf("ReadForm(%q): %d, %v", text, at, e)
	}
	return f
}

// plans makes a schedule of texts like `s: i + j, i`.
func plans(t *testing.T, texts ...string) []api.Plan {
	t.Helper()
	var l []api.Plan
	for _, text := range texts {
		key, times, _ := strings.Cut(text, ": ")
		x := api.Plan{Key: key}
		for _, f := range strings.Split(times, ", ") {
			x.Times = append(x.Times, form(t, f))
		}
		l = append(l, x)
	}
	return l
}

// code reads lines, with `; ` between them, that have to be right. It does so by hand, so that it tells nothing of Read.
func code(t *testing.T, text string) []api.Order {
	t.Helper()
	var l []api.Order
	for _, line := range strings.FieldsFunc(text, func(r rune) bool { return r == ';' || r == '\n' }) {
		words := strings.Fields(line)
		if len(words) == 0 {
			continue
		}
		k, found := kindOf(words[0])
		if !found || len(words) != 1+len(k.fields) {
			t.Fatalf("no instruction: %q", line)
		}
		o := api.Order{Do: k.do}
		for i, field := range k.fields {
			var n int
			if _, e := fmt.Sscan(words[i+1], &n); e != nil {
				t.Fatal(line, e)
			}
			*fieldOf(&o, field) = n
		}
		l = append(l, o)
	}
	return l
}

// kind is what the chapter says of an instruction: its fields, and for each one the least and the greatest number, in code with ten instructions for three arrays.
type kind struct {
	word      string
	do        int
	fields    string
	low, high []int
}

// kinds are all instructions, in the order of their numbers.
func kinds() []kind {
	r, v, c := api.MaxRegs-1, api.MaxVecs-1, api.MaxConst
	return []kind{
		{"halt", api.DoHalt, "", nil, nil},
		{"set", api.DoSet, "AK", []int{0, -c}, []int{r, c}},
		{"add", api.DoAdd, "ABC", []int{0, 0, 0}, []int{r, r, r}},
		{"sub", api.DoSub, "ABC", []int{0, 0, 0}, []int{r, r, r}},
		{"mul", api.DoMul, "ABK", []int{0, 0, -c}, []int{r, r, c}},
		{"div", api.DoDiv, "ABK", []int{0, 0, 1}, []int{r, r, api.MaxDiv}},
		{"jump", api.DoJump, "K", []int{0}, []int{9}},
		{"less", api.DoLess, "ABK", []int{0, 0, 0}, []int{r, r, 9}},
		{"load", api.DoLoad, "ABCK", []int{0, 0, 0, 0}, []int{v, r, r, 2}},
		{"store", api.DoStore, "ABCK", []int{0, 0, 0, 0}, []int{v, r, r, 2}},
		{"take", api.DoTake, "AB", []int{0, 0}, []int{v, r}},
		{"plus", api.DoPlus, "ABC", []int{0, 0, 0}, []int{v, v, v}},
		{"minus", api.DoMinus, "ABC", []int{0, 0, 0}, []int{v, v, v}},
		{"times", api.DoTimes, "ABC", []int{0, 0, 0}, []int{v, v, v}},
		{"wide", api.DoWide, "K", []int{1}, []int{api.MaxWide}},
		{"count", api.DoCount, "ABC", []int{0, 0, 0}, []int{v, r, r}},
	}
}

func kindOf(word string) (kind, bool) {
	for _, k := range kinds() {
		if k.word == word {
			return k, true
		}
	}
	return kind{}, false
}

func fieldOf(o *api.Order, field rune) *int {
	switch field {
	case 'A':
		return &o.A
	case 'B':
		return &o.B
	case 'C':
		return &o.C
	}
	return &o.K
}

// least is an instruction whose fields have the least numbers.
func (k kind) least() api.Order {
	o := api.Order{Do: k.do}
	for i, field := range k.fields {
		*fieldOf(&o, field) = k.low[i]
	}
	return o
}

// grid makes the grid of an array.
func grid(key string, values ...int) api.Grid { return api.Grid{Key: key, Values: values} }

func grids(l ...api.Grid) []api.Grid { return l }

// extremes are the ints that are farthest off.
func extremes() []int {
	const most = int(^uint(0) >> 1)
	return []int{most, most - 1, -most, -most - 1}
}

// ran is what Run returns, as one line.
func ran(p api.Program, c []api.Order, g []api.Grid, fuel int) string {
	out, n, e := emit.Run(p, c, g, fuel)
	if e != api.OK {
		if len(out) > 0 || n != 0 {
			return fmt.Sprint("results with error ", int(e))
		}
		return fmt.Sprint("error ", int(e))
	}
	text := ""
	for _, x := range out {
		text += fmt.Sprint(x.Key, " ", x.Values, " ")
	}
	return text + fmt.Sprint("in ", n)
}

// made is the text of a program that Scan returns, without its arrays and with single blanks, or the error.
func made(p api.Program, e api.Errno) string {
	if e != api.OK {
		if len(p.Arrays)+len(p.Steps) > 0 {
			return fmt.Sprint("a program with error ", int(e))
		}
		return fmt.Sprint("error ", int(e))
	}
	text, e := nest.Text(api.Program{Arrays: p.Arrays, Steps: p.Steps})
	if e != api.OK {
		return fmt.Sprint(p, e)
	}
	words := strings.Fields(text)
	for len(words) > 0 && words[0] == "array" {
		for !strings.HasSuffix(words[0], ";") {
			words = words[1:]
		}
		words = words[1:]
	}
	return strings.Join(words, " ")
}

// failure is a program with the error that its check or its run has.
type failure struct {
	program api.Program
	want    api.Errno
}

// wrongs are programs that the check refuses.
func wrongs() []failure {
	return []failure{
		{api.Program{Steps: []api.Step{{Kind: -1}}}, api.ErrKind},
		{api.Program{Arrays: []api.Array{{Key: "A"}}}, api.ErrName},
		{api.Program{Arrays: make([]api.Array, api.MaxArrays+1)}, api.ErrLarge},
		{api.Program{Arrays: []api.Array{{Key: "a"}}}, api.ErrNone},
	}
}

// failures are programs whose run has an error.
func failures(t *testing.T) []failure {
	t.Helper()
	return []failure{
		{program(t, "array a[4]; for i = 1000000 .. 1000000 { for j = i + 1 .. i + 1 { } }"), api.ErrArg},
		{program(t, "array a[4]; for i = 0 .. 200000 { }"), api.ErrFull},
		{program(t, "array a[4]; s: a[4] = 1;"), api.ErrRule},
		{program(t, "array a[4]; s: a[0] = a[-1];"), api.ErrRule},
		{program(t, "array a[4]; for i = 0 .. 49999 { s: a[0] = a[0] + a[1] + a[2] + a[3]; }"), api.ErrLarge},
		// Almost two million pairs of instances touch one cell.
		{program(t, "array a[4]; for i = 0 .. 1999 { s: a[0] = 1; }"), api.ErrFull},
	}
}
