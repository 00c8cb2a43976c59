package shape_test

import (
	"fmt"
	"strings"
	"testing"

	"warpbeam/api"
	"warpbeam/depend"
	"warpbeam/shape"
)

func TestFuse(t *testing.T) {
	try(t, []change{
		{"two", eight + "for i = 0 .. 3 { s: a[i] = 1; } for i = 0 .. 3 { r: b[i] = a[i]; }", fuse(0), "for i = 0 .. 3 { s: a[i] = 1; r: b[i] = a[i]; }"},
		{"other names", eight + "for i = 0 .. 3 { s: a[i] = 1; } for j = 0 .. 3 { if j >= 0 { for k = j .. (2*j)/3 { r: c[j, k] = a[j] + <k - 2*j>; } } u: b[j] = 1; }", fuse(0), "for i = 0 .. 3 { s: a[i] = 1; if i >= 0 { for k = i .. (2*i)/3 { r: c[i, k] = a[i] + <-2*i + k>; } } u: b[i] = 1; }"},
		{"first of three", eight + "for i = 0 .. 3 { s: a[i] = 1; } for j = 0 .. 3 { r: b[j] = 1; } for k = 0 .. 3 { u: c[k, 0] = 1; } v: c[0, 0] = 1;", fuse(0), "for i = 0 .. 3 { s: a[i] = 1; r: b[i] = 1; } for k = 0 .. 3 { u: c[k, 0] = 1; } v: c[0, 0] = 1;"},
		{"second of three", eight + "for i = 0 .. 3 { s: a[i] = 1; } for j = 0 .. 3 { r: b[j] = 1; } for k = 0 .. 3 { u: c[k, 0] = 1; }", fuse(1), "for i = 0 .. 3 { s: a[i] = 1; } for j = 0 .. 3 { r: b[j] = 1; u: c[j, 0] = 1; }"},
		{"inner", eight + "for h = 0 .. 1 { v: a[h] = 0; if 1 >= 0 { for i = max(h, 0) .. min((h + 3)/2, 3) { s: a[i] = 1; } for j = max(h, 0) .. min((h + 3)/2, 3) { r: b[j] = <h>; } } }", fuse(1), "for h = 0 .. 1 { v: a[h] = 0; if 1 >= 0 { for i = max(h, 0) .. min((h + 3)/2, 3) { s: a[i] = 1; r: b[i] = <h>; } } }"},
		{"empty ones", eight + "for i = 0 .. 3 { } for j = 0 .. 3 { }", fuse(0), "for i = 0 .. 3 { }"},
		{"terms in another order", eight + "for h = 0 .. 1 { for g = 0 .. 1 { for i = g .. h + g { s: a[i] = 1; } for j = g .. h + g { r: b[j] = 1; } } }", fuse(2), "for h = 0 .. 1 { for g = 0 .. 1 { for i = g .. g + h { s: a[i] = 1; r: b[i] = 1; } } }"},
		{"nothing behind", eight + "for i = 0 .. 3 { s: a[i] = 1; }", fuse(0), errors(api.ErrForm)},
		{"nothing behind in its list", eight + "for h = 0 .. 0 { for i = 0 .. 0 { s: a[i] = 1; } } for i = 0 .. 0 { r: a[i] = 1; }", fuse(1), errors(api.ErrForm)},
		{"a statement behind", eight + "for i = 0 .. 3 { s: a[i] = 1; } u: c[0, 0] = 1; for i = 0 .. 3 { r: b[i] = 1; }", fuse(0), errors(api.ErrForm)},
		{"a condition behind", eight + "for i = 0 .. 3 { s: a[i] = 1; } if 1 >= 0 { for i = 0 .. 3 { r: b[i] = 1; } }", fuse(0), errors(api.ErrForm)},
		{"another Low", eight + "for i = 0 .. 3 { } for i = 1 .. 3 { }", fuse(0), errors(api.ErrForm)},
		{"another High", eight + "for i = 0 .. 3 { } for i = 0 .. 4 { }", fuse(0), errors(api.ErrForm)},
		{"another Div", eight + "for i = 0 .. (6)/2 { } for i = 0 .. (6)/3 { }", fuse(0), errors(api.ErrForm)},
		{"another Coef", eight + "for h = 0 .. 0 { for i = 0 .. h { } for i = 0 .. 2*h { } }", fuse(1), errors(api.ErrForm)},
		{"more bounds", eight + "for i = 0 .. 3 { } for i = 0 .. min(3, 3) { }", fuse(0), errors(api.ErrForm)},
		{"bounds in another order", eight + "for i = 0 .. min(3, 4) { } for i = 0 .. min(4, 3) { }", fuse(0), errors(api.ErrForm)},
		{"the same value", eight + "for i = 0 .. (6)/2 { } for i = 0 .. 3 { }", fuse(0), errors(api.ErrForm)},
		{"turned flow", eight + "for i = 0 .. 3 { s: a[i] = 1; } for i = 0 .. 3 { r: b[i] = a[i + 1]; }", fuse(0), errors(api.ErrRule)},
		{"kept flow", eight + "for i = 1 .. 3 { s: a[i] = 1; } for i = 1 .. 3 { r: b[i] = a[i - 1]; }", fuse(0), "for i = 1 .. 3 { s: a[i] = 1; r: b[i] = a[i - 1]; }"},
		{"turned anti", eight + "for i = 0 .. 3 { s: b[i] = a[i + 1]; } for i = 0 .. 3 { r: a[i + 2] = 1; }", fuse(0), errors(api.ErrRule)},
		{"turned output", eight + "for i = 0 .. 3 { s: a[i + 1] = 2; } for i = 0 .. 3 { r: a[i + 2] = 1; }", fuse(0), errors(api.ErrRule)},
		{"its name in the other one", eight + "for i = 0 .. 3 { s: a[i] = 1; } for j = 0 .. 3 { for i = 0 .. j { r: c[i, j] = <i + j>; } }", fuse(0), errors(api.ErrTwice)},
		{"the name of the other one in it", eight + "for i = 0 .. 3 { for j = 0 .. i { r: c[i, j] = <i + j>; } } for j = 0 .. 3 { s: a[j] = 1; }", fuse(0), "for i = 0 .. 3 { for j = 0 .. i { r: c[i, j] = <i + j>; } s: a[i] = 1; }"},
	})
}

func TestSplit(t *testing.T) {
	const three = "for i = max(0, 1) .. (7)/2 { s: a[i] = 1; if i >= 0 { r: b[i] = a[i]; } u: c[i, i] = b[i]; } v: a[0] = 1;"
	try(t, []change{
		{"behind one", eight + three, split(0, 1), "for i = max(0, 1) .. (7)/2 { s: a[i] = 1; } for i = max(0, 1) .. (7)/2 { if i >= 0 { r: b[i] = a[i]; } u: c[i, i] = b[i]; } v: a[0] = 1;"},
		{"behind two", eight + three, split(0, 2), "for i = max(0, 1) .. (7)/2 { s: a[i] = 1; if i >= 0 { r: b[i] = a[i]; } } for i = max(0, 1) .. (7)/2 { u: c[i, i] = b[i]; } v: a[0] = 1;"},
		{"behind none", eight + three, split(0, 0), errors(api.ErrArg)},
		{"behind all", eight + three, split(0, 3), errors(api.ErrArg)},
		{"one step", eight + "for i = 0 .. 3 { s: a[i] = 1; }", split(0, 1), errors(api.ErrArg)},
		{"no step", eight + "for i = 0 .. 3 { }", split(0, 0), errors(api.ErrArg)},
		{"inner", eight + "for h = 0 .. 1 { for i = h .. 3 { s: a[i] = 1; r: b[i] = 1; } }", split(1, 1), "for h = 0 .. 1 { for i = h .. 3 { s: a[i] = 1; } for i = h .. 3 { r: b[i] = 1; } }"},
		{"turned flow", eight + "for i = 1 .. 3 { s: a[i] = b[i - 1]; r: b[i] = 1; }", split(0, 1), errors(api.ErrRule)},
		{"turned output", eight + "for i = 1 .. 3 { s: a[i] = 1; r: a[i - 1] = 1; }", split(0, 1), "for i = 1 .. 3 { s: a[i] = 1; } for i = 1 .. 3 { r: a[i - 1] = 1; }"},
		{"kept output", eight + "for i = 1 .. 3 { s: a[i] = 1; r: a[i + 1] = 1; }", split(0, 1), errors(api.ErrRule)},
		{"too many rounds", eight + "for i = 1 .. 100001 { if -1 >= 0 { } if -1 >= 0 { } }", split(0, 1), errors(api.ErrFull)},
		{"as many rounds as can be", eight + "for i = 1 .. 100000 { if -1 >= 0 { } if -2 >= 0 { } }", split(0, 1), "for i = 1 .. 100000 { if -1 >= 0 { } } for i = 1 .. 100000 { if -2 >= 0 { } }"},
	})
	for _, at := range extremes() {
		same(t, "at", made(shape.Split(program(t, eight+three), 0, at)), errors(api.ErrArg))
	}
}

func TestCut(t *testing.T) {
	const two = "for i = 0 .. 3 { s: a[i] = b[i]; for j = i .. (9)/4 { if j >= 0 { r: b[i + j] = a[i] + <j>; } } } u: a[8] = 1;"
	long := strings.Repeat("s", api.MaxName-2)
	try(t, []change{
		{"at 2", eight + two, cut(0, 2), "for i = 0 .. min(3, 1) { s: a[i] = b[i]; for j = i .. (9)/4 { if j >= 0 { r: b[i + j] = a[i] + <j>; } } } for i = max(0, 2) .. 3 { s_2: a[i] = b[i]; for j = i .. (9)/4 { if j >= 0 { r_2: b[i + j] = a[i] + <j>; } } } u: a[8] = 1;"},
		{"inner", eight + two, cut(1, 1), "for i = 0 .. 3 { s: a[i] = b[i]; for j = i .. min((9)/4, 0) { if j >= 0 { r: b[i + j] = a[i] + <j>; } } for j = max(i, 1) .. (9)/4 { if j >= 0 { r_2: b[i + j] = a[i] + <j>; } } } u: a[8] = 1;"},
		{"ahead of all", eight + "for i = 0 .. 3 { s: a[i] = a[i + 1]; }", cut(0, -5), "for i = 0 .. min(3, -6) { s: a[i] = a[i + 1]; } for i = max(0, -5) .. 3 { s_2: a[i] = a[i + 1]; }"},
		{"behind all", eight + "for i = 0 .. 3 { s: a[i] = a[i + 1]; }", cut(0, 1000000), "for i = 0 .. min(3, 999999) { s: a[i] = a[i + 1]; } for i = max(0, 1000000) .. 3 { s_2: a[i] = a[i + 1]; }"},
		{"many bounds", eight + "for i = max(0, 1, 2, 3, 4) .. min(5, 6, 7, 8, 9) { }", cut(0, 3), "for i = max(0, 1, 2, 3, 4) .. min(5, 6, 7, 8, 9, 2) { } for i = max(0, 1, 2, 3, 4, 3) .. min(5, 6, 7, 8, 9) { }"},
		{"too many Low", eight + "for i = max(0, 1, 2, 3, 4, 5) .. 6 { }", cut(0, 3), errors(api.ErrLarge)},
		{"too many High", eight + "for i = 0 .. min(5, 6, 7, 8, 9, 9) { }", cut(0, 3), errors(api.ErrLarge)},
		{"a name that is there", eight + "for i = 0 .. 3 { s: a[i] = 1; } s_2: a[0] = 1;", cut(0, 1), errors(api.ErrTwice)},
		{"a name that is there in it", eight + "for i = 0 .. 3 { s: a[i] = 1; s_2: b[i] = 1; }", cut(0, 1), errors(api.ErrTwice)},
		{"the name of a copy", eight + "for i = 0 .. 3 { s_2: a[i] = a[i]; } s: a[0] = a[1];", cut(0, 1), "for i = 0 .. min(3, 0) { s_2: a[i] = a[i]; } for i = max(0, 1) .. 3 { s_2_2: a[i] = a[i]; } s: a[0] = a[1];"},
		{"names of copies of others", eight + "s_2: a[0] = 1; for i = 0 .. 3 { r: a[i] = a[i]; } s: a[0] = a[1];", cut(0, 1), "s_2: a[0] = 1; for i = 0 .. min(3, 0) { r: a[i] = a[i]; } for i = max(0, 1) .. 3 { r_2: a[i] = a[i]; } s: a[0] = a[1];"},
		{"a long name", eight + "for i = 0 .. 0 { " + long + ": a[i] = 1; }", cut(0, 1), "for i = 0 .. min(0, 0) { " + long + ": a[i] = 1; } for i = max(0, 1) .. 0 { " + long + "_2: a[i] = 1; }"},
		{"too long a name", eight + "for i = 0 .. 0 { s" + long + ": a[i] = 1; }", cut(0, 1), errors(api.ErrName)},
		{"below the least number", eight + "for i = 0 .. 0 { s: a[i] = 1; }", cut(0, -1000000), errors(api.ErrArg)},
		{"above the least number", eight + "for i = 0 .. 0 { s: a[i] = 1; }", cut(0, -999999), "for i = 0 .. min(0, -1000000) { s: a[i] = 1; } for i = max(0, -999999) .. 0 { s_2: a[i] = 1; }"},
	})
	// The number is asked for ahead of what the result has.
	p := program(t, eight+"for i = max(0, 1, 2, 3, 4, 5) .. min(5, 6, 7, 8, 9, 9) { }")
	same(t, "at", made(shape.Cut(p, 0, 1000001)), errors(api.ErrArg))
	same(t, "at", made(shape.Cut(p, 0, -1000001)), errors(api.ErrArg))
	same(t, "at", made(shape.Cut(p, 0, -1000000)), errors(api.ErrLarge))
	wrong, _ := outside(-api.MaxConst, api.MaxConst)
	for _, at := range wrong {
		same(t, "at", made(shape.Cut(program(t, eight+two), 0, at)), errors(api.ErrArg))
	}
}

// P6.1: errors come in their order.
func TestErrorsInOrder(t *testing.T) {
	all := numbers{n: 7, by: 5_000_000, size: -1, outer: "K", inner: "L", move: api.Move{Kind: 9, Loop: 7, Arg: 1}}
	for _, f := range failures(t) {
		same(t, "results", results(f.program, all), allFail(f.want))
		all.n = 0
		same(t, "results", results(f.program, all), allFail(f.want))
		all.n = -1
	}
	// There is no such loop; nothing else is asked.
	p := program(t, "array a[4]; if 1 >= 0 { for i = (1)/2 .. 2 { s: a[i] = a[i - 1]; } } for j = 0 .. 0 { }")
	none := allFail(api.ErrNone)
	for _, n := range append(extremes(), -1, 2) {
		all.n, all.move = n, api.Move{Kind: api.MoveShift, Loop: n, Arg: 5_000_000}
		l := results(p, all)
		same(t, "results", l[:10], none[:10])
	}
	try(t, []change{
		{"a check ahead of a run", eight + "for i = 0 .. 199999 { for j = 1 .. 0 { } }", strip(0, 3, "j"), errors(api.ErrTwice)},
		{"a check ahead of a rule", eight + "for i = 600000 .. 600001 { s: a[i - 600000] = a[600001 - i] + <i>; }", reverse(0), errors(api.ErrArg)},
		{"a run ahead of a rule", eight + "for i = 0 .. 9 { for j = 0 .. 19989 { if 3 - i >= 0, 3 - j >= 0 { s: a[i + j] = 1; } } }", exchange(0), errors(api.ErrFull)},
		{"just a rule", eight + "for i = 0 .. 9 { for j = 0 .. 1998 { if 3 - i >= 0, 3 - j >= 0 { s: a[i + j] = 1; } } }", exchange(0), errors(api.ErrRule)},
		{"a run ahead of a rule", eight + "for i = 1 .. 100001 { if 2 - i >= 0 { s: a[i] = b[i - 1]; } if 2 - i >= 0 { r: b[i] = 1; } }", split(0, 1), errors(api.ErrFull)},
		{"just a rule", eight + "for i = 1 .. 10001 { if 2 - i >= 0 { s: a[i] = b[i - 1]; } if 2 - i >= 0 { r: b[i] = 1; } }", split(0, 1), errors(api.ErrRule)},
	})
}

func TestSimple(t *testing.T) {
	for _, c := range []struct {
		text, want string
		fewer      int
	}{
		{"", "", 0},
		{"s: a[0] = 1;", "s: a[0] = 1;", 0},
		{"if -1 >= 0 { s: a[0] = 1; } if 0 >= 0 { r: a[1] = 1; } for i = 3 .. 2 { u: a[i] = 2; }", "r: a[1] = 1;", 5},
		{"for i = 2 .. 2 { s: a[i] = 1; }", "for i = 2 .. 2 { s: a[i] = 1; }", 0},
		{"for i = (3)/2 .. (3)/2 { s: a[i] = 1; }", "", 2},
		{"for i = (-3)/2 .. (-3)/2 { s: a[i] = 1; }", "", 2},
		{"for i = (4)/2 .. (5)/2 { s: a[i] = 1; }", "for i = (4)/2 .. (5)/2 { s: a[i] = 1; }", 0},
		{"for i = (-1)/2 .. (1)/2 { s: a[i] = 1; }", "for i = (-1)/2 .. (1)/2 { s: a[i] = 1; }", 0},
		{"for i = max(0, 5) .. min(9, 4) { s: a[i] = 1; }", "", 2},
		{"for h = 0 .. 3 { for i = max(h, 0, 5) .. min(2*h, 9, (9)/2, h) { s: a[i] = 1; } }", "", 3},
		{"for h = 0 .. 3 { for i = h .. h - 1 { s: a[i] = 1; } }", "for h = 0 .. 3 { for i = h .. h - 1 { s: a[i] = 1; } }", 0},
		{"for h = 0 .. 3 { for i = h .. -1 { s: a[i] = 1; } }", "for h = 0 .. 3 { for i = h .. -1 { s: a[i] = 1; } }", 0},
		{"for i = 0 .. 3 { }", "", 1},
		{"for i = 0 .. 3 { for j = i .. 3 { if i - j >= 0 { } } } s: a[0] = 1;", "s: a[0] = 1;", 3},
		{"for i = 0 .. 3 { if i >= 0, -1 >= 0 { s: a[i] = 1; } r: a[i] = 1; }", "for i = 0 .. 3 { r: a[i] = 1; }", 2},
		{"for i = 0 .. 3 { if 7 >= 0, i >= 0, 0 >= 0, i - 1 >= 0 { s: a[i] = 1; } }", "for i = 0 .. 3 { if i >= 0, i - 1 >= 0 { s: a[i] = 1; } }", 0},
		{"for i = 0 .. 3 { if 7 >= 0, 0 >= 0 { s: a[i] = 1; if 5 >= 0 { u: b[i] = 1; } r: a[i] = 2; } v: a[i] = 3; }", "for i = 0 .. 3 { s: a[i] = 1; u: b[i] = 1; r: a[i] = 2; v: a[i] = 3; }", 2},
		{"for i = 0 .. 3 { if 0 >= 0 { for j = 3 .. 2 { s: a[i] = 1; } } }", "", 4},
		{"if 0 >= 0, -1 >= 0 { s: a[0] = 1; }", "", 2},
		{"if 1 >= 0 { if 2 >= 0 { if 3 >= 0 { for i = 0 .. 0 { if i >= 0 { s: a[i] = 1; } } } } }", "for i = 0 .. 0 { if i >= 0 { s: a[i] = 1; } }", 3},
		// What is never done needs no right indices, and what is not run no few rounds.
		{"s: a[77] = 1; for i = 0 .. 1000000 { if i - 1000000 >= 0 { r: a[i] = 1; } }", "s: a[77] = 1; for i = 0 .. 1000000 { if i - 1000000 >= 0 { r: a[i] = 1; } }", 0},
	} {
		q, n, e := shape.Simple(program(t, eight+c.text))
		same(t, c.text, []any{made(q, e), n}, []any{c.want, c.fewer})
		if len(q.Arrays) != 4 {
			t.Error(c.text, q.Arrays)
		}
	}
	q, n, e := shape.Simple(api.Program{})
	same(t, "nothing", []any{q, n, e}, []any{api.Program{}, 0, api.OK})
	for _, f := range failures(t)[:3] {
		q, n, e := shape.Simple(f.program)
		same(t, "wrong", []any{q, n, e}, []any{api.Program{}, 0, f.want})
	}
}

func TestPerfect(t *testing.T) {
	for text, want := range map[string][]int{
		"":                                      nil,
		"for i = 0 .. 1 { }":                    nil,
		"for i = 0 .. 1 { for j = 0 .. i { } }": {0},
		"for i = 0 .. 1 { if 0 >= 0 { for j = 0 .. i { } } }":                                                                                                nil,
		"for i = 0 .. 1 { for j = 0 .. i { } s: a[i] = 1; }":                                                                                                 nil,
		"for i = 0 .. 1 { for j = 0 .. i { } for j = 0 .. i { } }":                                                                                           nil,
		"for i = 0 .. 1 { s: a[i] = 1; } for i = 0 .. 1 { for j = 0 .. i { } }":                                                                              {1},
		"for i = 0 .. 1 { for j = 0 .. 1 { for k = 0 .. 1 { s: a[77] = 1; } } }":                                                                             {0, 1},
		"if 0 >= 0 { for i = 0 .. 300000 { for j = 0 .. 1 { } } } for h = 1 .. 0 { for i = 0 .. 1 { if 1 >= 0 { for j = 0 .. 1 { for k = 0 .. 1 { } } } } }": {0, 2, 4},
	} {
		l, e := shape.Perfect(program(t, eight+text))
		same(t, text, []any{l, e}, []any{want, api.OK})
	}
	for _, f := range failures(t)[:3] {
		l, e := shape.Perfect(f.program)
		same(t, "wrong", []any{l, e}, []any{[]int{}, f.want})
	}
}

func TestDo(t *testing.T) {
	const two = "for i = 1 .. 2 { for j = 1 .. 2 { s: c[i, j] = 1; r: b[i] = 2; } } for i = 1 .. 2 { u: a[i] = 1; }"
	p := program(t, eight+two)
	for _, c := range []struct {
		m    api.Move
		want string
	}{
		{api.Move{Kind: api.MoveExchange}, made(shape.Exchange(p, 0))},
		{api.Move{Kind: api.MoveReverse, Loop: 2}, made(shape.Reverse(p, 2))},
		{api.Move{Kind: api.MoveFuse}, made(shape.Fuse(p, 0))},
		{api.Move{Kind: api.MoveSplit, Loop: 1, Arg: 1}, made(shape.Split(p, 1, 1))},
		{api.Move{Kind: api.MoveShift, Loop: 1, Arg: -7}, made(shape.Shift(p, 1, -7))},
		{api.Move{Kind: api.MoveSkew, Arg: 3}, made(shape.Skew(p, 0, 3))},
		{api.Move{Kind: api.MoveShift, Loop: 1}, made(shape.Shift(p, 1, 0))},
		{api.Move{Kind: api.MoveExchange, Loop: 1}, errors(api.ErrForm)},
		{api.Move{Kind: api.MoveFuse, Loop: 2}, errors(api.ErrForm)},
		{api.Move{Kind: api.MoveSplit}, errors(api.ErrArg)},
		{api.Move{Kind: api.MoveShift, Arg: 1001}, errors(api.ErrArg)},
		{api.Move{Kind: api.MoveSkew, Arg: -1001}, errors(api.ErrArg)},
		{api.Move{Kind: api.MoveReverse, Loop: 3}, errors(api.ErrNone)},
		{api.Move{Kind: api.MoveReverse, Loop: -1}, errors(api.ErrNone)},
		{api.Move{Kind: api.MoveExchange, Loop: 3, Arg: 1}, errors(api.ErrForm)},
		{api.Move{Kind: api.MoveReverse, Arg: -1}, errors(api.ErrForm)},
		{api.Move{Kind: api.MoveFuse, Arg: 1}, errors(api.ErrForm)},
		{api.Move{}, errors(api.ErrKind)},
		{api.Move{Kind: 7, Loop: 3, Arg: 1}, errors(api.ErrKind)},
		{api.Move{Kind: -1}, errors(api.ErrKind)},
	} {
		same(t, fmt.Sprint(c.m), made(shape.Do(p, c.m)), c.want)
	}
	for _, n := range extremes() {
		same(t, "kind", made(shape.Do(p, api.Move{Kind: n})), errors(api.ErrKind))
		same(t, "loop", made(shape.Do(p, api.Move{Kind: api.MoveFuse, Loop: n})), errors(api.ErrNone))
		same(t, "arg", made(shape.Do(p, api.Move{Kind: api.MoveFuse, Arg: n})), errors(api.ErrForm))
		same(t, "arg", made(shape.Do(p, api.Move{Kind: api.MoveSplit, Arg: n})), errors(api.ErrArg))
	}
}

func TestMoves(t *testing.T) {
	for _, c := range []struct {
		text string
		want []api.Move
	}{
		{"", nil},
		{"s: a[0] = 1;", nil},
		{"for i = 0 .. 3 { s: a[i] = 1; } for i = 0 .. 3 { r: b[i] = a[i]; }", []api.Move{{Kind: 2}, {Kind: 3}, {Kind: 2, Loop: 1}}},
		{"for i = 0 .. 3 { s: a[i] = 1; r: b[i] = a[i]; u: c[0, i] = 1; v: c[1, i] = c[0, i - 0]; }", []api.Move{{Kind: 2}, {Kind: 4, Arg: 1}, {Kind: 4, Arg: 2}, {Kind: 4, Arg: 3}}},
		{"for i = 1 .. 3 { s: a[i] = 1; r: b[i] = b[i - 1]; u: c[0, i] = b[i - 1]; v: c[1, i] = c[0, i - 1]; }", []api.Move{{Kind: 4, Arg: 1}, {Kind: 4, Arg: 2}, {Kind: 4, Arg: 3}}},
		{"for i = 1 .. 3 { for j = 1 .. 3 { s: c[i, j] = c[i - 1, j]; } } for k = 1 .. 3 { u: a[k] = a[k - 1]; }", []api.Move{{Kind: 1}, {Kind: 3}, {Kind: 2, Loop: 1}}},
		{"for i = 1 .. 3 { for j = 1 .. 3 { s: c[i, j] = c[i - 1, j + 1]; } }", []api.Move{{Kind: 2, Loop: 1}}},
	} {
		l, e := shape.Moves(program(t, eight+c.text))
		same(t, c.text, []any{l, e}, []any{c.want, api.OK})
	}
}

// P6.1: what a loop carries decides which loops can be reversed.
func TestFreeLoopsCanBeReversed(t *testing.T) {
	p := program(t, eight+"for i = 1 .. 3 { for j = 1 .. 3 { s: c[i, j] = c[i - 1, j]; for k = 0 .. 2 { r: a[k] = a[k + 1]; } } }")
	free, _ := depend.Free(p)
	same(t, "Free", free, []int{})
	q := program(t, eight+"for i = 1 .. 3 { for j = 1 .. 3 { s: c[i, j] = c[i - 1, j]; } for k = 0 .. 2 { r: a[k + i] = b[k + i]; } }")
	free, _ = depend.Free(q)
	same(t, "Free", free, []int{1, 2})
	for n := range 3 {
		_, e := shape.Reverse(q, n)
		same(t, "Reverse", e == api.OK, n > 0)
	}
}
