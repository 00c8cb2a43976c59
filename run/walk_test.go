package run_test

import (
	"fmt"
	"strings"
	"testing"

	"warpbeam/api"
	"warpbeam/run"
)

// done writes instances: `s 1 2, t 3`.
func done(l []api.Instance) string {
	var parts []string
	for _, x := range l {
		s := x.Key
		for _, n := range x.Values {
			s += fmt.Sprint(" ", n)
		}
		parts = append(parts, s)
	}
	return strings.Join(parts, ", ")
}

type walkCase struct {
	text   string
	rounds int
	want   string
}

// runWalks runs programs with the array a before them.
func runWalks(t *testing.T, l []walkCase) {
	t.Helper()
	for _, c := range l {
		p := program(t, "array a[1]; "+c.text)
		x, e := run.Instances(p)
		same(t, c.text, []any{done(x), e}, []any{c.want, api.OK})
		n, e := run.Rounds(p)
		same(t, c.text, []any{n, e}, []any{c.rounds, api.OK})
	}
}

func TestInstances(t *testing.T) {
	runWalks(t, []walkCase{
		{"", 0, ""},
		{"s: a[0] = 1;", 0, "s"},
		{"t: a[0] = 1; s: a[0] = 1;", 0, "t, s"},
		{"for i = 1 .. 3 { s: a[0] = 1; }", 3, "s 1, s 2, s 3"},
		{"for i = 3 .. 3 { s: a[0] = 1; }", 1, "s 3"},
		{"for i = 4 .. 3 { s: a[0] = 1; } t: a[0] = 1;", 0, "t"},
		{"for i = 9 .. -9 { s: a[0] = 1; }", 0, ""},
		{"for i = -2 .. 0 { }", 3, ""},
		{"for i = -1 .. 1 { s: a[0] = 1; t: a[0] = 1; }", 3, "s -1, t -1, s 0, t 0, s 1, t 1"},
		{"for i = 0 .. 1 { s: a[0] = 1; } t: a[0] = 1; for i = 5 .. 6 { u: a[0] = 1; }", 4, "s 0, s 1, t, u 5, u 6"},
		{"for i = 1 .. 2 { for j = 7 .. 8 { s: a[0] = 1; } t: a[0] = 1; }", 6, "s 1 7, s 1 8, t 1, s 2 7, s 2 8, t 2"},
		{"for j = 1 .. 2 { for i = 7 .. 8 { s: a[0] = 1; } }", 6, "s 1 7, s 1 8, s 2 7, s 2 8"},
		{"for i = 0 .. 2 { for j = i .. 2 { for k = j - i .. j - i { s: a[0] = 1; } } }", 3 + 6 + 6, "s 0 0 0, s 0 1 1, s 0 2 2, s 1 1 0, s 1 2 1, s 2 2 0"},
		{"for i = 0 .. 2 { for j = 2*i .. 4 - i { } for j = 2 - i .. 1 { s: a[0] = 1; } }", 3 + 7 + 3, "s 1 1, s 2 0, s 2 1"},
	})
}

func TestBoundsAreRounded(t *testing.T) {
	runWalks(t, []walkCase{
		{"for i = (5)/2 .. (9)/2 { s: a[0] = 1; }", 2, "s 3, s 4"},
		{"for i = (4)/2 .. (8)/2 { s: a[0] = 1; }", 3, "s 2, s 3, s 4"},
		{"for i = (-5)/2 .. (-1)/2 { s: a[0] = 1; }", 2, "s -2, s -1"},
		{"for i = (-4)/2 .. (-2)/2 { s: a[0] = 1; }", 2, "s -2, s -1"},
		{"for i = (-1)/1000 .. (1)/1000 { s: a[0] = 1; }", 1, "s 0"},
		{"for i = (1)/1000 .. (999)/1000 { s: a[0] = 1; }", 0, ""},
		{"for i = (-999)/1000 .. (-1)/1000 { s: a[0] = 1; }", 0, ""},
		{"for i = -7 .. -4 { for j = (i)/3 .. (i)/3 { s: a[0] = 1; } }", 5, "s -6 -2"},
		{"for i = 0 .. 5 { for j = (i + 1)/3 .. (2*i - 1)/3 { s: a[0] = 1; } }", 6 + 4, "s 2 1, s 4 2, s 5 2, s 5 3"},
		// The greatest one of the low ones, the least one of the high ones.
		{"for i = max(1, 3, 2) .. 4 { s: a[0] = 1; }", 2, "s 3, s 4"},
		{"for i = 1 .. min(4, 2, 3) { s: a[0] = 1; }", 2, "s 1, s 2"},
		{"for i = max((5)/2, (9)/4) .. min((9)/2, (11)/3) { s: a[0] = 1; }", 1, "s 3"},
		{"for i = max(-9, (-5)/2) .. min((-3)/2, 9) { s: a[0] = 1; }", 1, "s -2"},
		{"for i = 0 .. 3 { for j = max(0, i - 2, 1) .. min(2, i) { s: a[0] = 1; } }", 4 + 5, "s 1 1, s 2 1, s 2 2, s 3 1, s 3 2"},
	})
}

func TestConditions(t *testing.T) {
	runWalks(t, []walkCase{
		{"if 0 >= 0 { s: a[0] = 1; }", 0, "s"},
		{"if 1 >= 0 { s: a[0] = 1; }", 0, "s"},
		{"if -1 >= 0 { s: a[0] = 1; } t: a[0] = 1;", 0, "t"},
		{"if 0 >= 0, 5 >= 0 { s: a[0] = 1; t: a[0] = 1; }", 0, "s, t"},
		{"if -1 >= 0, 5 >= 0 { s: a[0] = 1; }", 0, ""},
		{"if 5 >= 0, 5 >= 0, -1 >= 0 { s: a[0] = 1; }", 0, ""},
		{"for i = 0 .. 4 { if i - 1 >= 0, 3 - i >= 0 { s: a[0] = 1; } }", 5, "s 1, s 2, s 3"},
		{"for i = 0 .. 2 { if i - 1 >= 0 { for j = i .. 2 { if i + j - 3 >= 0 { s: a[0] = 1; } t: a[0] = 1; } } u: a[0] = 1; }", 3 + 3, "u 0, t 1 1, s 1 2, t 1 2, u 1, s 2 2, t 2 2, u 2"},
		{"if -1 >= 0 { for i = 1 .. 900000 { } s: a[0] = 1; }", 0, ""},
	})
}

// far puts steps into a loop with one round, in which m is 1000000.
func far(steps string) string { return "for m = 1000000 .. 1000000 { " + steps + " } " }

// tooFar is a round with a value that is too great.
func tooFar() string { return far("for j = m + 1 .. m + 1 { }") }

func TestErrorsOfRounds(t *testing.T) {
	for _, c := range []struct {
		text string
		want api.Errno
	}{
		// The values of rounds are from -MaxConst to MaxConst; those of bounds need not be.
		{far("for j = m .. m { } for j = -m .. -m { }"), api.OK},
		{far("for j = m + 1 .. m + 1 { }"), api.ErrArg},
		{far("for j = -m - 1 .. -m - 1 { }"), api.ErrArg},
		{far("for j = m - 1 .. m + 1 { }"), api.ErrArg},
		{far("for j = -m - 1 .. 5 { }"), api.ErrArg},
		{far("for j = m + 1 .. m { } for j = 1000*m .. 999*m { }"), api.OK},
		{far("for j = -1000*m .. 1000*m { }"), api.ErrArg},
		{far("for j = (1000*m)/1000 .. (1000*m + 999)/1000 { }"), api.OK},
		{far("for j = (1000*m + 1)/1000 .. (1000*m + 1000)/1000 { }"), api.ErrArg},
		{far("for j = max(-1000*m, 5) .. min(1000*m, 6) { }"), api.OK},
		{far("if m - 1000000 >= 0 { for j = m + 1 .. m + 1 { } }"), api.ErrArg},
		{far("if 999999 - m >= 0 { for j = m + 1 .. m + 1 { } }"), api.OK},
		{far("if 1000*m >= 0, -1000*m >= 0 { s: a[0] = 1; }"), api.OK},
		// So many rounds.
		{"for i = 1 .. 200000 { }", api.OK},
		{"for i = 1 .. 200001 { }", api.ErrFull},
		{"for i = 1 .. 400 { for j = 1 .. 499 { } }", api.OK},
		{"for i = 1 .. 400 { for j = 1 .. 499 { } } for i = 1 .. 0 { }", api.OK},
		{"for i = 1 .. 400 { for j = 1 .. 499 { } } for i = 1 .. 1 { }", api.ErrFull},
		{"for i = 1 .. 100000 { } for i = 1 .. 100000 { }", api.OK},
		{"for i = 1 .. 100000 { } for i = 1 .. 100001 { }", api.ErrFull},
		{"for i = -1000000 .. 1000000 { }", api.ErrFull},
		// So many instances.
		{"for i = 1 .. 50000 { s: a[0] = 1; }", api.OK},
		{"for i = 1 .. 50001 { s: a[0] = 1; }", api.ErrFull},
		{"for i = 1 .. 25000 { s: a[0] = 1; t: a[0] = 1; }", api.OK},
		{"for i = 1 .. 25000 { s: a[0] = 1; t: a[0] = 1; } u: a[0] = 1;", api.ErrFull},
		{"for i = 1 .. 25000 { s: a[0] = 1; t: a[0] = 1; } if -1 >= 0 { u: a[0] = 1; }", api.OK},
		{"for i = 1 .. 200000 { if 50000 - i >= 0 { s: a[0] = 1; } }", api.OK},
		{"for i = 1 .. 200000 { if 50001 - i >= 0 { s: a[0] = 1; } }", api.ErrFull},
		// Whichever comes first.
		{tooFar() + "for i = 1 .. 200001 { }", api.ErrArg},
		{"for i = 1 .. 200001 { } " + tooFar(), api.ErrFull},
		{tooFar() + "for i = 1 .. 50001 { s: a[0] = 1; }", api.ErrArg},
		{"for i = 1 .. 50001 { s: a[0] = 1; } " + tooFar(), api.ErrFull},
		// At one round the value is asked for ahead of the number: this one would be round 200001 at 1000001, or at 1000000.
		{"for i = 1 .. 99999 { } " + far("for j = 900001 .. m + 1 { }"), api.ErrArg},
		{"for i = 1 .. 100000 { } " + far("for j = 900001 .. m + 1 { }"), api.ErrFull},
	} {
		p := program(t, "array a[1]; "+c.text)
		l, e := run.Instances(p)
		same(t, c.text, e, c.want)
		n, f := run.Rounds(p)
		same(t, c.text, f, c.want)
		if c.want != api.OK {
			same(t, c.text, []any{l, n}, []any{[]api.Instance{}, 0})
		}
	}
	p := program(t, "array a[1]; for i = 1 .. 50000 { s: a[0] = 1; }")
	l, _ := run.Instances(p)
	same(t, "most", []any{len(l), done(l[49_999:])}, []any{50_000, "s 50000"})
	n, _ := run.Rounds(program(t, "for i = 1 .. 200000 { }"))
	same(t, "most", n, 200_000)
}
