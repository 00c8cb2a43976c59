package run_test

import (
	"fmt"
	"strings"
	"testing"

	"warpbeam/api"
	"warpbeam/nest"
	"warpbeam/run"
)

func TestSources(t *testing.T) {
	for _, c := range []struct {
		text string
		want []int
	}{
		{"", nil},
		{"array a[4];", nil},
		{example, []int{-1, -1, 0, -1, 1, -1}},
		// An instance is no source of its own reads.
		{"array a[2]; s: a[0] = a[0] + a[1]; t: a[0] = a[0] * a[0];", []int{-1, -1, -1, 0, 0, -1}},
		{"array a[2]; s: a[0] = 1; t: a[0] = 2; u: a[1] = a[0]; v: a[0] = a[1] - a[0];", []int{-1, -1, 1, -1, 2, 1, -1}},
		// Cells with one number in different arrays are different ones.
		{"array a[2]; array b[2]; s: a[1] = 1; t: b[0] = b[1] + a[0]; u: a[0] = a[1] + b[0];", []int{-1, -1, -1, -1, 0, 1, -1}},
		{"array b[2]; array a[2]; s: a[1] = 1; t: b[0] = b[1] + a[0]; u: a[0] = a[1] + b[0];", []int{-1, -1, -1, -1, 0, 1, -1}},
		{"array b[2, 2]; for i = 0 .. 1 { s: b[i, 0] = 1; } for i = 0 .. 1 { t: b[0, i] = b[i, i] + b[1 - i, 0]; }", []int{-1, -1, 0, 1, -1, -1, 2, -1}},
	} {
		l, e := run.Sources(program(t, c.text))
		same(t, c.text, []any{l, e}, []any{c.want, api.OK})
	}
}

func TestIdle(t *testing.T) {
	const text = "array c[1]; array a[2]; array b[2]; s: a[0] = 1; t: b[0] = a[0]; u: a[0] = 2; v: b[1] = b[0]; w: b[1] = a[1]; x: c[0] = b[0];"
	for _, c := range []struct {
		text, keys string
		want       []int
	}{
		{text, "", []int{0, 1, 2, 3, 4, 5}},
		{text, "a", []int{0, 1, 3, 4, 5}},
		{text, "b", []int{2, 3, 5}},
		{text, "c", []int{2, 3, 4}},
		{text, "b a", []int{3, 5}},
		{text, "c a", []int{3, 4}},
		{text, "a b c", []int{3}},
		{example, "a", nil},
		{example, "", []int{0, 1, 2}},
		{"array a[3]; array b[1]; for i = 0 .. 2 { s: a[i] = <i>; } t: b[0] = a[1];", "b", []int{0, 2}},
		{"array a[1]; for i = 0 .. 4 { s: a[0] = <i>; }", "a", []int{0, 1, 2, 3}},
		{"array a[1]; for i = 0 .. 4 { s: a[0] = a[0] + 1; }", "a", nil},
		{"array a[1];", "a", nil},
	} {
		l, e := run.Idle(program(t, c.text), strings.Fields(c.keys))
		same(t, c.text+c.keys, []any{l, e}, []any{c.want, api.OK})
	}
}

func TestWithout(t *testing.T) {
	const text = `array a[4];
for i = 0 .. 3 {
  s: a[i] = 1;
  for j = max(0, i) .. (2*i + 1)/2 {
    if i - j >= 0, j >= 0 {
      t: a[j] = a[i] * (<i> + 2);
    }
    u: a[0] = 1;
  }
}
if 0 >= 0 {
  for k = 0 .. 1 {
    v: a[k] = a[k];
  }
}
w: a[3] = 5;
`
	parts := func(keep ...int) string {
		lines := strings.SplitAfter(text, "\n")
		var b strings.Builder
		for _, i := range keep {
			b.WriteString(lines[i])
		}
		return b.String()
	}
	for _, c := range []struct{ names, want string }{
		{"", text},
		{"w", parts(0, 1, 2, 3, 4, 5, 6, 7, 8, 9, 10, 11, 12, 13, 14)},
		{"v", parts(0, 1, 2, 3, 4, 5, 6, 7, 8, 9, 15)},
		{"t", parts(0, 1, 2, 3, 7, 8, 9, 10, 11, 12, 13, 14, 15)},
		{"u", parts(0, 1, 2, 3, 4, 5, 6, 8, 9, 10, 11, 12, 13, 14, 15)},
		{"u t", parts(0, 1, 2, 9, 10, 11, 12, 13, 14, 15)},
		{"s", parts(0, 1, 3, 4, 5, 6, 7, 8, 9, 10, 11, 12, 13, 14, 15)},
		{"u s t", parts(0, 10, 11, 12, 13, 14, 15)},
		{"w v u t s", parts(0)},
	} {
		p, e := run.Without(program(t, text), strings.Fields(c.names))
		same(t, c.names, []any{written(t, p), e}, []any{c.want, api.OK})
	}
	// What is empty already goes, too.
	p, e := run.Without(program(t, "array a[1]; for i = 0 .. 1 { if i >= 0 { } for j = 0 .. 1 { for k = 0 .. 1 { } } } for i = 0 .. 1 { if i >= 0 { } s: a[0] = 1; }"), nil)
	same(t, "empty", []any{written(t, p), e}, []any{"array a[1];\nfor i = 0 .. 1 {\n  s: a[0] = 1;\n}\n", api.OK})
	p, e = run.Without(program(t, ""), nil)
	same(t, "nothing", []any{p, e}, []any{api.Program{}, api.OK})
	// A program need not run for this.
	p, e = run.Without(program(t, outside+tooFar()), []string{"s"})
	same(t, "no run", []any{written(t, p), e}, []any{"array a[4];\n", api.OK})
}

func TestErrorsOfWithout(t *testing.T) {
	text := "array a[1]; for i = 0 .. 1 { s: a[0] = 1; t: a[0] = 1; }"
	for _, c := range []struct {
		names []string
		want  api.Errno
	}{
		{[]string{"t", "s"}, api.OK},
		{[]string{"u"}, api.ErrNone},
		{[]string{"a"}, api.ErrNone},
		{[]string{"i"}, api.ErrNone},
		{[]string{"s", "s"}, api.ErrTwice},
		{[]string{"s", "t", "s"}, api.ErrTwice},
		{[]string{"s", "s", ""}, api.ErrTwice},
		{[]string{"u", ""}, api.ErrNone},
		{[]string{"u", "u"}, api.ErrNone},
		{[]string{"s", "", "s"}, api.ErrName},
	} {
		p, e := run.Without(program(t, text), c.names)
		same(t, fmt.Sprint(c.names), e, c.want)
		if e != api.OK {
			same(t, fmt.Sprint(c.names), p, api.Program{})
		}
	}
	for _, s := range noNames() {
		_, e := run.Without(program(t, text), []string{s, "s", "s"})
		same(t, s, e, api.ErrName)
	}
}

func TestTrimmed(t *testing.T) {
	const text = "array a[2]; array b[1]; for i = 0 .. 1 { s: a[i] = <i>; if i - 1 >= 0 { t: b[0] = a[1]; } } if 5 >= 0 { u: b[0] = a[0]; } for i = 3 .. 2 { v: a[0] = 1; } for i = 0 .. 9 { }"
	const s, t1, u = "for i = 0 .. 1 {\n  s: a[i] = <i>;\n", "  if i - 1 >= 0 {\n    t: b[0] = a[1];\n  }\n", "if 5 >= 0 {\n  u: b[0] = a[0];\n}\n"
	const arrays = "array a[2];\narray b[1];\n"
	for _, c := range []struct {
		text, keys, want string
		out              int
	}{
		{text, "", arrays, 4},
		{text, "a", arrays + s + "}\n", 3},
		{text, "b", arrays + s + "}\n" + u, 2},
		{text, "b a", arrays + s + "}\n" + u, 2},
		{strings.Replace(text, "u: b[0]", "u: a[1]", 1), "a b", arrays + s + t1 + "}\n" + strings.Replace(u, "u: b[0]", "u: a[1]", 1), 1},
		{strings.Replace(text, "u: b[0]", "u: a[1]", 1), "b", arrays + s + t1 + "}\n", 2},
		{"array a[2]; array b[1]; for i = 0 .. 1 { s: a[0] = <i>; }", "a", arrays + "for i = 0 .. 1 {\n  s: a[0] = <i>;\n}\n", 0},
		{"array a[2]; array b[1]; for i = 0 .. 1 { }", "a", arrays, 0},
		{"", "", "", 0},
	} {
		p, n, e := run.Trimmed(program(t, c.text), strings.Fields(c.keys))
		same(t, c.text+c.keys, []any{written(t, p), n, e}, []any{c.want, c.out, api.OK})
	}
}

func TestErrorsOfKeys(t *testing.T) {
	text := "array b[1]; array a[4]; s: a[0] = 1;"
	for _, c := range []struct {
		text string
		keys []string
		want api.Errno
	}{
		{text, []string{"a", "b"}, api.OK},
		{text, []string{"b", "a"}, api.OK},
		{text, []string{"a", "s"}, api.ErrNone},
		{text, []string{"a", "b", "a"}, api.ErrTwice},
		{text, []string{"a", "a", ""}, api.ErrTwice},
		{text, []string{"c", ""}, api.ErrNone},
		{text, []string{"a", "", "a"}, api.ErrName},
		{outside, []string{""}, api.ErrRule},
		{"array a[1]; " + tooFar(), []string{""}, api.ErrArg},
	} {
		p := program(t, c.text)
		l, e := run.Idle(p, c.keys)
		same(t, fmt.Sprint("Idle", c.keys), e, c.want)
		q, n, f := run.Trimmed(p, c.keys)
		same(t, fmt.Sprint("Trimmed", c.keys), f, c.want)
		if c.want != api.OK {
			same(t, fmt.Sprint(c.keys), []any{l, q, n}, []any{[]int{}, api.Program{}, 0})
		}
	}
	for _, s := range noNames() {
		_, e := run.Idle(program(t, text), []string{s, "c"})
		same(t, s, e, api.ErrName)
		_, _, e = run.Trimmed(program(t, text), []string{s, "c"})
		same(t, s, e, api.ErrName)
		_, e = run.Needs(program(t, text), spot(s, -1))
		same(t, s, e, api.ErrName)
	}
}

func TestNeeds(t *testing.T) {
	const text = "array c[2]; array a[3]; array b[2, 2]; s: a[0] = c[1] + b[1, 1]; t: b[0, 0] = a[0] * a[2] + a[1]; u: a[0] = 5; v: c[0] = b[0, 0] + b[0, 1] + a[0] + b[0, 1]; w: a[1] = a[1];"
	for _, c := range []struct {
		text string
		s    api.Spot
		want []api.Spot
	}{
		{example, spot("a", 0), []api.Spot{spot("a", 0)}},
		{example, spot("a", 1), []api.Spot{spot("a", 0)}},
		{example, spot("a", 3), []api.Spot{spot("a", 0)}},
		{text, spot("a", 0), nil},
		{text, spot("a", 1), []api.Spot{spot("a", 1)}},
		{text, spot("a", 2), []api.Spot{spot("a", 2)}},
		{text, spot("b", 0), []api.Spot{spot("a", 1), spot("a", 2), spot("b", 3), spot("c", 1)}},
		{text, spot("b", 3), []api.Spot{spot("b", 3)}},
		{text, spot("c", 0), []api.Spot{spot("a", 1), spot("a", 2), spot("b", 1), spot("b", 3), spot("c", 1)}},
		{text, spot("c", 1), []api.Spot{spot("c", 1)}},
		{"array a[1];", spot("a", 0), []api.Spot{spot("a", 0)}},
		{"array a[12]; for i = 0 .. 10 { s: a[11] = a[11] + a[10 - i]; }", spot("a", 11), []api.Spot{spot("a", 0), spot("a", 1), spot("a", 2), spot("a", 3), spot("a", 4), spot("a", 5), spot("a", 6), spot("a", 7), spot("a", 8), spot("a", 9), spot("a", 10), spot("a", 11)}},
		{"array a[2]; s: a[0] = a[1]; t: a[0] = 1 - <2>;", spot("a", 0), nil},
	} {
		l, e := run.Needs(program(t, c.text), c.s)
		same(t, fmt.Sprint(c.text, c.s), []any{l, e}, []any{c.want, api.OK})
	}
}

func TestErrorsOfNeeds(t *testing.T) {
	text := "array b[2, 3]; array a[4]; s: a[0] = 1;"
	for _, c := range []struct {
		text string
		s    api.Spot
		want api.Errno
	}{
		{text, spot("b", 5), api.OK},
		{text, spot("a", 3), api.OK},
		{text, spot("s", 0), api.ErrNone},
		{text, spot("c", -1), api.ErrNone},
		{text, spot("a", -1), api.ErrArg},
		{text, spot("a", 4), api.ErrArg},
		{text, spot("b", -1), api.ErrArg},
		{text, spot("b", 6), api.ErrArg},
		{outside, spot("", -1), api.ErrRule},
		{"array a[1]; " + tooFar(), spot("", -1), api.ErrArg},
	} {
		l, e := run.Needs(program(t, c.text), c.s)
		same(t, fmt.Sprint(c.text, c.s), []any{len(l) > 0, e}, []any{c.want == api.OK, c.want})
	}
	for _, n := range extremes() {
		for _, key := range []string{"a", "b"} {
			_, e := run.Needs(program(t, text), spot(key, n))
			same(t, fmt.Sprint(n), e, api.ErrArg)
		}
	}
}

// P2.1 and P2.2: the errors that functions with a program have first.
func TestAllCheckTheProgramFirst(t *testing.T) {
	all := map[string]func(p api.Program) (bool, api.Errno){
		"Instances": func(p api.Program) (bool, api.Errno) { l, e := run.Instances(p); return l == nil, e },
		"Rounds":    func(p api.Program) (bool, api.Errno) { n, e := run.Rounds(p); return n == 0, e },
		"Accesses":  func(p api.Program) (bool, api.Errno) { l, e := run.Accesses(p); return l == nil, e },
		"Run":       func(p api.Program) (bool, api.Errno) { l, e := run.Run(p, grids(grid(""))); return l == nil, e },
		"InOrder": func(p api.Program) (bool, api.Errno) {
			l, e := run.InOrder(p, grids(grid("")), []int{9})
			return l == nil, e
		},
		"Sources": func(p api.Program) (bool, api.Errno) { l, e := run.Sources(p); return l == nil, e },
		"Idle":    func(p api.Program) (bool, api.Errno) { l, e := run.Idle(p, []string{""}); return l == nil, e },
		"Needs":   func(p api.Program) (bool, api.Errno) { l, e := run.Needs(p, api.Spot{}); return l == nil, e },
		"Without": func(p api.Program) (bool, api.Errno) {
			q, e := run.Without(p, []string{""})
			return len(q.Arrays)+len(q.Steps) == 0, e
		},
		"Trimmed": func(p api.Program) (bool, api.Errno) {
			q, n, e := run.Trimmed(p, []string{""})
			return len(q.Arrays)+len(q.Steps)+n == 0, e
		},
	}
	for name, f := range all {
		for _, p := range []api.Program{wrong(), {Arrays: make([]api.Array, 21)}, {Arrays: []api.Array{{}}}} {
			zero, e := f(p)
			same(t, name, []any{zero, e}, []any{true, nest.Check(p)})
		}
		if name == "Instances" || name == "Rounds" || name == "Without" {
			continue
		}
		for text, want := range map[string]api.Errno{
			tooFar():                  api.ErrArg,
			"for i = 1 .. 200001 { }": api.ErrFull,
			outside:                   api.ErrRule,
			"array a[1]; for i = 1 .. 50000 { s: a[0] = a[0] + a[0] + a[0] + a[0]; }": api.ErrLarge,
		} {
			zero, e := f(program(t, text))
			same(t, name+text, []any{zero, e}, []any{true, want})
		}
	}
}
