package nest_test

import (
	"fmt"
	"strconv"
	"strings"
	"testing"

	"warpbeam/api"
	"warpbeam/nest"
)

// Z3 and P1.2: a program that is wrong has this error everywhere, and nothing else is returned.
func TestAllCheckTheProgramFirst(t *testing.T) {
	p := steps(api.Step{})
	many, deep, e := nest.Loops(p)
	same(t, "Loops", []any{many, deep, e}, []any{0, 0, api.ErrKind})
	l, e := nest.Statements(p)
	same(t, "Statements", []any{l, e}, []any{[]string{}, api.ErrKind})
	s, around, e := nest.Statement(p, "S")
	same(t, "Statement", []any{s, around, e}, []any{api.Step{}, []api.Step{}, api.ErrKind})
	n, e := nest.Cells(p)
	same(t, "Cells", []any{n, e}, []any{0, api.ErrKind})
	r, w, e := nest.Used(p)
	same(t, "Used", []any{r, w, e}, []any{[]string{}, []string{}, api.ErrKind})
	q, e := nest.Renamed(p, make([]api.Pair, 101))
	same(t, "Renamed", []any{q, e}, []any{api.Program{}, api.ErrKind})
	text, e := nest.Text(p)
	same(t, "Text", []any{text, e}, []any{"", api.ErrKind})
}

func TestExample(t *testing.T) {
	p := program(t, "array a[10]; for i = 1 .. 9 { s: a[i] = a[i - 1] * 3 + <i>; }")
	many, deep, e := nest.Loops(p)
	same(t, "loops", []any{many, deep, e}, []any{1, 1, api.OK})
	l, e := nest.Statements(p)
	same(t, "statements", []any{l, e}, []any{[]string{"s"}, api.OK})
	n, e := nest.Cells(p)
	same(t, "cells", []any{n, e}, []any{10, api.OK})
	r, w, e := nest.Used(p)
	same(t, "used", []any{r, w, e}, []any{[]string{"a"}, []string{"a"}, api.OK})
}

func TestStatements(t *testing.T) {
	cases := []struct {
		text string
		want string
	}{
		{"", ""},
		{"array a[4]; for i = 0 .. 1 { }", ""},
		{"array a[4]; z: a[0] = 1; y: a[0] = 1; a: a[0] = 1;", "z y a"},
		{all, "s t u"},
		{"array a[4]; for i = 0 .. 1 { b: a[0] = 1; if 0 >= 0 { x: a[0] = 1; for j = 0 .. 1 { c: a[0] = 1; } } a: a[0] = 1; } w: a[0] = 1;", "b x c a w"},
	}
	for _, c := range cases {
		l, e := nest.Statements(program(t, c.text))
		same(t, c.text, []any{l, e}, []any{strings.Fields(c.want), api.OK})
	}
}

func TestStatement(t *testing.T) {
	p := program(t, all)
	s, around, e := nest.Statement(p, "t")
	same(t, "t", s, api.Step{Kind: api.StepSet, Name: "t", Array: "b", Subs: []api.Form{form(0, "j", 1), form(0)}, Expr: formed(form(0, "i", -1, "j", 1))})
	same(t, "e", e, api.OK)
	i, j := p.Steps[0], p.Steps[0].Body[1]
	when := j.Body[0]
	i.Body, j.Body, when.Body = nil, nil, nil
	same(t, "around", around, []api.Step{i, j, when})
	s, around, e = nest.Statement(p, "s")
	same(t, "s", []any{s.Name, s.Expr.Op, around, e}, []any{"s", api.OpAdd, []api.Step{i}, api.OK})
	s, around, e = nest.Statement(p, "u")
	same(t, "u", []any{s.Name, len(s.Subs), around, e}, []any{"u", 4, []api.Step{}, api.OK})
}

func TestStatementErrors(t *testing.T) {
	p := program(t, all)
	for _, key := range noNames() {
		s, around, e := nest.Statement(p, key)
		same(t, key, []any{s, around, e}, []any{api.Step{}, []api.Step{}, api.ErrName})
	}
	// Neither an array nor a loop is a statement.
	for _, key := range []string{"a", "i", "v", strings.Repeat("s", api.MaxName)} {
		s, around, e := nest.Statement(p, key)
		same(t, key, []any{s, around, e}, []any{api.Step{}, []api.Step{}, api.ErrNone})
	}
	// A statement can have the name of a loop, also of one around it.
	s, around, e := nest.Statement(program(t, "array a[4]; for i = 0 .. 1 { for k = 0 .. 1 { } k: a[0] = 1; }"), "k")
	same(t, "k", []any{s.Kind, s.Name, len(around), e}, []any{api.StepSet, "k", 1, api.OK})
}

func TestLoops(t *testing.T) {
	cases := []struct {
		text       string
		many, deep int
	}{
		{"", 0, 0},
		{"array a[4]; s: a[0] = 1;", 0, 0},
		{"if 0 >= 0 { if 0 >= 0 { } }", 0, 0},
		{"for i = 0 .. 1 { }", 1, 1},
		{"for i = 0 .. 1 { } for i = 0 .. 1 { }", 2, 1},
		{"for i = 0 .. 1 { if 0 >= 0 { for j = 0 .. 1 { } } }", 2, 2},
		{"for i = 0 .. 1 { for j = 0 .. 1 { } for j = 0 .. 1 { for k = 0 .. 1 { } } } for i = 0 .. 1 { for j = 0 .. 1 { } }", 6, 3},
		{all, 3, 3},
	}
	for _, c := range cases {
		many, deep, e := nest.Loops(program(t, c.text))
		same(t, c.text, []any{many, deep, e}, []any{c.many, c.deep, api.OK})
	}
}

func TestCells(t *testing.T) {
	cases := []struct {
		text string
		want int
	}{
		{"", 0}, {"array a[1];", 1}, {"array a[3, 4]; array b[5];", 17}, {all, 38}, {"array a[20000];", 20000}, {"array a[10, 10, 10, 10]; array b[100, 100];", 20000},
	}
	for _, c := range cases {
		n, e := nest.Cells(program(t, c.text))
		same(t, c.text, []any{n, e}, []any{c.want, api.OK})
	}
}

// The cells of an array are numbered without gaps, the last index counting fastest.
func TestCell(t *testing.T) {
	a := array("b", 2, 3, 1, 4)
	next := 0
	for i := range 2 {
		for j := range 3 {
			for k := range 4 {
				n, ok, e := nest.Cell(a, []int{i, j, 0, k})
				same(t, fmt.Sprint(i, j, k), []any{n, ok, e}, []any{next, true, api.OK})
				next++
			}
		}
	}
	n, ok, e := nest.Cell(array("a", api.MaxCells), []int{api.MaxCells - 1})
	same(t, "last", []any{n, ok, e}, []any{api.MaxCells - 1, true, api.OK})
	outside := [][]int{{2, 0, 0, 0}, {0, 3, 0, 0}, {0, 0, 1, 0}, {0, 0, 0, 4}, {-1, 0, 0, 0}, {0, -1, 0, 0}, {0, 0, 0, -1}, {1, 2, 0, 5}}
	for _, x := range extremes() {
		outside = append(outside, []int{x, 0, 0, 0}, []int{0, 0, 0, x}, []int{x, x, x, x})
	}
	for _, index := range outside {
		n, ok, e := nest.Cell(a, index)
		same(t, fmt.Sprint(index), []any{n, ok, e}, []any{0, false, api.OK})
	}
}

func TestCellErrors(t *testing.T) {
	cases := []struct {
		a     api.Array
		index []int
		want  api.Errno
	}{
		{array("", 0), nil, api.ErrName},
		{array("min", 2), []int{0}, api.ErrName},
		{array("a"), nil, api.ErrNone},
		{array("a", 1, 1, 1, 1, 1), []int{0}, api.ErrLarge},
		{array("a", 0), nil, api.ErrArg},
		{array("a", 20_001), []int{0}, api.ErrArg},
		{array("a", 200, 200), nil, api.ErrFull},
		{array("a", 20_000, 20_000, 20_000, 20_000), []int{0, 0, 0, 0}, api.ErrFull},
		{array("a", 2), nil, api.ErrForm},
		{array("a", 2), []int{0, 0}, api.ErrForm},
		{array("a", 2), []int{5, 5}, api.ErrForm},
		{array("a", 2, 2), []int{9}, api.ErrForm},
	}
	for _, c := range cases {
		n, ok, e := nest.Cell(c.a, c.index)
		same(t, fmt.Sprint(c), []any{n, ok, e}, []any{0, false, c.want})
	}
}

func TestUsed(t *testing.T) {
	arrays := "array z[4]; array y[4]; array b[4]; array a[4]; "
	cases := []struct{ text, read, set string }{
		{"", "", ""},
		{"s: z[0] = 1;", "", "z"},
		{"s: a[0] = z[0] * (y[1] - (b[2] + z[0]));", "b y z", "a"},
		{"s: z[0] = a[0]; t: b[0] = a[0]; u: z[0] = y[0]; v: a[0] = y[0];", "a y", "a b z"},
		{"for i = 0 .. 1 { if i >= 0 { s: z[0] = y[0]; } } if 0 >= 0 { t: a[0] = <1>; }", "y", "a z"},
	}
	for _, c := range cases {
		r, w, e := nest.Used(program(t, arrays+c.text))
		same(t, c.text, []any{r, w, e}, []any{strings.Fields(c.read), strings.Fields(c.set), api.OK})
	}
}

// pairs makes pairs of `old new` and so on.
func pairs(s string) []api.Pair {
	var l []api.Pair
	w := strings.Fields(s)
	for i := 0; i < len(w); i += 2 {
		l = append(l, api.Pair{Name: w[i], Value: w[i+1]})
	}
	return l
}

func TestRenamed(t *testing.T) {
	const text = `array a[9];
array b[9];
for i = 0 .. 3 {
  for j = max(0, i) .. min(i + 1, (2*i)/2) {
    if i - j >= 0, j >= 0 {
      s: a[i + 2*j] = a[i] + b[j] * <i + 3*j>;
    }
  }
}
for i = 0 .. 1 {
  a: b[i] = 1;
}
`
	cases := []struct {
		names   string
		changes []string // old and new parts of the text, by turns
	}{
		{"", nil},
		{"i i a a", nil},
		{"i k", []string{"for i", "for k", "max(0, i)", "max(0, k)", "min(i + 1, (2*i)/2)", "min(k + 1, (2*k)/2)", "if i - j >= 0", "if -j + k >= 0", "a[i + 2*j]", "a[2*j + k]", "a[i]", "a[k]", "<i + 3*j>", "<3*j + k>", "b[i]", "b[k]"}},
		{"s t", []string{"s:", "t:"}},
		{"a c", []string{"array a", "array c", "a[i", "c[i", "a:", "c:"}},
		{"j i2", []string{"for j", "for i2", "- j", "- i2", " j >=", " i2 >=", "*j", "*i2", "b[j]", "b[i2]"}},
		{"a b b a", []string{"array a", "array B", "array b", "array a", "array B", "array b", "a[i", "B[i", "b[j", "a[j", "b[i", "a[i", "B[i", "b[i", "a:", "b:"}},
	}
	for _, c := range cases {
		want := text
		for i := 0; i < len(c.changes); i += 2 {
			want = strings.ReplaceAll(want, c.changes[i], c.changes[i+1])
		}
		q, e := nest.Renamed(program(t, text), pairs(c.names))
		same(t, c.names, e, api.OK)
		same(t, c.names, q, program(t, want))
	}
}

// Names change their places all at once, and terms stand in order again.
func TestRenamedTurnsNames(t *testing.T) {
	p := program(t, "array a[9]; for i = 0 .. 3 { for j = i .. 3 { s: a[2*i + j] = <i - j>; } }")
	q, e := nest.Renamed(p, pairs("i j j i a s s a"))
	same(t, "turned", e, api.OK)
	same(t, "turned", written(t, q), "array s[9];\nfor j = 0 .. 3 {\n  for i = j .. 3 {\n    a: s[i + 2*j] = <-i + j>;\n  }\n}\n")
	r, e := nest.Renamed(q, pairs("i j j i a s s a"))
	same(t, "twice", e, api.OK)
	same(t, "twice", r, p)
	// One after the other is something else: i becomes j, and is not j's name again.
	q, e = nest.Renamed(p, pairs("i j j k"))
	same(t, "chain", e, api.OK)
	same(t, "chain", written(t, q), "array a[9];\nfor j = 0 .. 3 {\n  for k = j .. 3 {\n    s: a[2*j + k] = <j - k>;\n  }\n}\n")
}

func TestRenamedErrors(t *testing.T) {
	p := program(t, "array a[9]; array b[9]; for i = 0 .. 3 { for j = i .. 3 { s: a[i + j] = <i - j>; } t: b[0] = 1; }")
	long := strings.Repeat("x", 41)
	cases := []struct {
		names []api.Pair
		want  api.Errno
	}{
		{make([]api.Pair, 101), api.ErrLarge},
		{make([]api.Pair, 100), api.ErrName},
		{pairs("I k"), api.ErrName},
		{pairs("i K"), api.ErrName},
		{pairs("i for"), api.ErrName},
		{pairs("if k"), api.ErrName},
		{pairs("i " + long), api.ErrName},
		{[]api.Pair{{Name: "i"}}, api.ErrName},
		{[]api.Pair{{Value: "i"}}, api.ErrName},
		{pairs("x K"), api.ErrName},
		{pairs("x k"), api.ErrNone},
		{pairs("i x x k"), api.ErrNone},
		{pairs("i k i l"), api.ErrTwice},
		{pairs("i k i k"), api.ErrTwice},
		{pairs("i k i K"), api.ErrName},
		{pairs("x k i K"), api.ErrNone},
		{pairs("i k i l x y"), api.ErrTwice},
		// The result is wrong.
		{pairs("i j"), api.ErrTwice},
		{pairs("j i"), api.ErrTwice},
		{pairs("a b"), api.ErrTwice},
		{pairs("s t"), api.ErrTwice},
		{pairs("i a"), api.ErrTwice},
		{pairs("a j"), api.ErrTwice},
	}
	for _, c := range cases {
		q, e := nest.Renamed(p, c.names)
		same(t, fmt.Sprint(c.names), []any{q, e}, []any{api.Program{}, c.want})
	}
}

func TestRenamedMany(t *testing.T) {
	p := steps()
	var l []api.Pair
	for i := range 101 {
		p.Steps = append(p.Steps, set("s"+strconv.Itoa(i), number(1)))
		l = append(l, api.Pair{Name: "s" + strconv.Itoa(i), Value: "t" + strconv.Itoa(i)})
	}
	q, e := nest.Renamed(p, l[:100])
	same(t, "most", e, api.OK)
	names, _ := nest.Statements(q)
	same(t, "most", names[98:], []string{"t98", "t99", "s100"})
	q, e = nest.Renamed(p, l)
	same(t, "too many", []any{q, e}, []any{api.Program{}, api.ErrLarge})
}

// Names that are exchanged twice are as they were.
func TestRenamedTwice(t *testing.T) {
	g := dice(3)
	for range 100 {
		p := g.program()
		there := map[string]bool{}
		many, _ := nest.Statements(p)
		for _, s := range many {
			there[s] = true
		}
		l := pairs("a b b a c z")
		back := pairs("a b b a z c")
		if there["s1"] && there["s2"] {
			l, back = append(l, pairs("s1 s2 s2 s1")...), append(back, pairs("s2 s1 s1 s2")...)
		}
		if _, deep, _ := nest.Loops(p); deep > 0 && p.Steps[0].Kind == api.StepLoop {
			l, back = append(l, pairs("i1 q")...), append(back, pairs("q i1")...)
		}
		q, e := nest.Renamed(p, l)
		same(t, "there", e, api.OK)
		r, e := nest.Renamed(q, back)
		same(t, "back", e, api.OK)
		same(t, "back", r, p)
	}
}
