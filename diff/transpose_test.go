package diff_test

import (
	"fmt"
	"strings"
	"testing"

	"warpbeam/api"
	"warpbeam/diff"
)

// P9.4: what makes an expression linear.
func TestLinear(t *testing.T) {
	for _, c := range []struct {
		text string
		want bool
	}{
		{"0", true},
		{"7", false},
		{"<i>", false},
		{"<5>", false},
		{"<0>", true},
		{"3 - 3", true},
		{"<i> * 0", true},
		{"<i> - <i>", false},
		{"a[i]", true},
		{"a[0] + a[1] - a[0]", true},
		{"a[0] * a[1]", false},
		{"a[0] * a[1] * 0", true},
		{"a[0] * (a[1] * 0 + 2)", true},
		{"a[0] * (a[1] * 0 + a[2])", false},
		{"(a[0] + a[1]) * (a[0] - a[1])", false},
		{"a[0] * 3", true},
		{"3 * a[0]", true},
		{"a[0] * <i>", true},
		{"<i> * a[0]", true},
		{"a[0] * (<i> * 3 - <j> + 1)", true},
		{"(<i> * 3 - <j> + 1) * a[0]", true},
		{"(a[0] * 2 - 3 * a[1]) * <i>", true},
		{"a[0] + 0", true},
		{"0 - a[0]", true},
		{"a[0] + 5", false},
		{"5 - a[0]", false},
		{"a[0] - <i>", false},
		{"a[0] * 2 + 3 * <i>", false},
		// A number by the side of a read, under a product without reads on the other side, is not multiplied by one.
		{"(a[0] + 1) * 3", false},
		{"3 * (a[0] - <i>)", false},
		{"(a[0] + 1) * 3 * <i>", false},
		{"(a[0] * 2 + 1 * 2) * 3", false},
		{"(0 - a[0]) * 3", true},
		{"(a[0] + <0>) * 3", true},
		{"a[0] * (0 - <i>)", true},
		// Under any product above, it is.
		{"(3 * (<i> * (2 + <j>))) * a[0]", true},
		{"((1 + <i>) * 3 - (2 - <j> * 4)) * (a[0] - a[1])", true},
		{"(1 + <i>) * 3 * a[0] + (2 - <j> * 4)", false},
	} {
		p := program(t, around+c.text+"; } }")
		is, e := diff.Linear(p)
		same(t, c.text, []any{is, e}, []any{c.want, api.OK})
		same(t, c.text, naiveLinear(expr(t, c.text)), c.want)
		_, e = diff.Transposed(p)
		want := api.OK
		if !c.want {
			want = api.ErrState
		}
		same(t, c.text, e, want)
	}
}

// P9.4: all expressions have to be linear, wherever their statements stand, also if they are never done.
func TestLinearPrograms(t *testing.T) {
	for _, c := range []struct {
		text string
		want bool
	}{
		{"", true},
		{"array a[1]; for i = 0 .. 1 { if i >= 0 { } }", true},
		{"array a[1]; s: a[0] = a[0]; t: a[0] = 0;", true},
		{"array a[1]; s: a[0] = a[0]; t: a[0] = 1;", false},
		{"array a[1]; s: a[0] = 1; t: a[0] = a[0];", false},
		{"array a[1]; for i = 0 .. 1 { if i >= 0 { s: a[0] = 0; for j = 0 .. i { t: a[0] = a[0] * 2; } } u: a[0] = a[0]; }", true},
		{"array a[1]; for i = 0 .. 1 { if i >= 0 { s: a[0] = 0; for j = 0 .. i { t: a[0] = a[0] * a[0]; } } u: a[0] = a[0]; }", false},
		{"array a[1]; for i = 1 .. 0 { s: a[0] = 1; }", false},
	} {
		is, e := diff.Linear(program(t, c.text))
		same(t, c.text, []any{is, e}, []any{c.want, api.OK})
	}
	for _, c := range failures(t) {
		is, e := diff.Linear(c.program)
		same(t, textOf(c.program), []any{is, e}, []any{naiveLinearAll(t, c.program), api.OK})
	}
}

// P9.4: the statements that a statement becomes.
func TestShares(t *testing.T) {
	for _, c := range []struct{ text, want string }{
		{"0", ""},
		{"a[0] * 0", ""},
		{"a[0]", "s_0: a[0] = a[0] + t_b[0];"},
		{"b[i, 2 - j]", "s_0: b[-i, j + 2] = b[-i, j + 2] + t_b[0];"},
		{"a[0] * 3", "s_0: a[0] = a[0] + 3 * t_b[0];"},
		{"3 * a[0]", "s_0: a[0] = a[0] + 3 * t_b[0];"},
		{"a[0] * <i - 2*j + 3>", "s_0: a[0] = a[0] + <-i + 2*j + 3> * t_b[0];"},
		{"a[0] + a[0]", "s_0: a[0] = a[0] + t_b[0]; s_1: a[0] = a[0] + t_b[0];"},
		{"a[0] - a[1]", "s_0: a[0] = a[0] + t_b[0]; s_1: a[1] = a[1] + 1000002 * t_b[0];"},
		{"0 - a[1]", "s_0: a[1] = a[1] + 1000002 * t_b[0];"},
		{"a[0] - a[1] * 3", "s_0: a[0] = a[0] + t_b[0]; s_1: a[1] = a[1] + 1000000 * t_b[0];"},
		{"a[0] - <i> * a[1]", "s_0: a[0] = a[0] + t_b[0]; s_1: a[1] = a[1] + (0 - <-i>) * t_b[0];"},
		// Each second Arg of a difference turns the sign, also above and below products.
		{"a[0] - (a[1] - a[2])", "s_0: a[0] = a[0] + t_b[0]; s_1: a[1] = a[1] + 1000002 * t_b[0]; s_2: a[2] = a[2] + t_b[0];"},
		{"a[0] - (a[1] - (a[2] - a[3]))", "s_0: a[0] = a[0] + t_b[0]; s_1: a[1] = a[1] + 1000002 * t_b[0]; s_2: a[2] = a[2] + t_b[0]; s_3: a[3] = a[3] + 1000002 * t_b[0];"},
		{"a[0] - 5 * (a[1] - a[2])", "s_0: a[0] = a[0] + t_b[0]; s_1: a[1] = a[1] + 999998 * t_b[0]; s_2: a[2] = a[2] + 5 * t_b[0];"},
		{"a[0] - a[1] - a[2]", "s_0: a[0] = a[0] + t_b[0]; s_1: a[1] = a[1] + 1000002 * t_b[0]; s_2: a[2] = a[2] + 1000002 * t_b[0];"},
		// Factors from outside to inside, on either side.
		{"<i> * (<j> * (<2*i> * a[0]))", "s_0: a[0] = a[0] + <-i> * <-j> * <-2*i> * t_b[0];"},
		{"a[0] * <i> * <j> * <2*i>", "s_0: a[0] = a[0] + <-2*i> * <-j> * <-i> * t_b[0];"},
		{"<i> * (a[0] * <j>)", "s_0: a[0] = a[0] + <-i> * <-j> * t_b[0];"},
		{"(<i> * a[0]) * <j>", "s_0: a[0] = a[0] + <-j> * <-i> * t_b[0];"},
		{"(<i> * <j>) * (a[0] * (<i> + <j>))", "s_0: a[0] = a[0] + <-i> * <-j> * (<-i> + <-j>) * t_b[0];"},
		{"<i> * (<j> * <i> * a[0])", "s_0: a[0] = a[0] + <-i> * (<-j> * <-i>) * t_b[0];"},
		{"(3 - <i>) * (a[0] - 2 * a[1])", "s_0: a[0] = a[0] + (3 - <-i>) * t_b[0]; s_1: a[1] = a[1] + (0 - (3 - <-i>) * 2) * t_b[0];"},
		// All is simple: factors that are numbers become one, and 1 is left out.
		{"2 * (3 * a[0])", "s_0: a[0] = a[0] + 6 * t_b[0];"},
		{"2 * (500002 * a[0])", "s_0: a[0] = a[0] + t_b[0];"},
		{"0 - 2 * (500001 * a[0])", "s_0: a[0] = a[0] + t_b[0];"},
		{"a[0] * 1 * <1>", "s_0: a[0] = a[0] + t_b[0];"},
		{"(2 - 1) * (a[0] + 0) - 0", "s_0: a[0] = a[0] + t_b[0];"},
		// Reads that are not in the simple expression have no number.
		{"a[0] * 0 + a[1]", "s_0: a[1] = a[1] + t_b[0];"},
		{"(a[0] - a[1]) * 0 - a[2]", "s_0: a[2] = a[2] + 1000002 * t_b[0];"},
	} {
		q, e := diff.Transposed(program(t, around+c.text+"; } }"))
		text := made(q, e)
		_, text, _ = strings.Cut(text, "for j = -2 .. 0 { s_t: t_b[0] = a[8]; s_z: a[8] = 0;")
		same(t, c.text, text, strings.TrimRight(" "+c.want, " ")+" } }")
	}
}

// P9.4: steps come in the other order, and loops go from the other end.
func TestTransposed(t *testing.T) {
	for _, c := range []struct{ text, want string }{
		{"", "array t_b[1];"},
		{"array b[2]; array a[3];", "array b[2]; array a[3]; array t_b[1];"},
		{
			"array a[4]; for i = 1 .. 3 { s: a[i] = a[i - 1] * 3; }",
			"array a[4]; array t_b[1]; for i = -3 .. -1 { s_t: t_b[0] = a[-i]; s_z: a[-i] = 0; s_0: a[-i - 1] = a[-i - 1] + 3 * t_b[0]; }",
		},
		{
			"array a[4]; s: a[0] = a[1]; t: a[1] = 0; u: a[2] = a[3];",
			"array a[4]; array t_b[1]; u_t: t_b[0] = a[2]; u_z: a[2] = 0; u_0: a[3] = a[3] + t_b[0]; t_t: t_b[0] = a[1]; t_z: a[1] = 0; s_t: t_b[0] = a[0]; s_z: a[0] = 0; s_0: a[1] = a[1] + t_b[0];",
		},
		{
			"array a[9, 9]; for i = max(0, -2) .. min((7)/2, 5) { for j = max(i - 1, (2*i + 3)/4) .. (i + 20)/3 { } if 2*i - 3 >= 0, 4 >= 0 { for k = 0 .. i { s: a[i, k + 1] = <i - k + 2> * a[k, 2*i - k]; } } for k = i .. i { } }",
			"array a[9, 9]; array t_b[1]; for i = max((-7)/2, -5) .. min(0, 2) { for k = i .. i { } if -2*i - 3 >= 0, 4 >= 0 { for k = i .. 0 { s_t: t_b[0] = a[-i, -k + 1]; s_z: a[-i, -k + 1] = 0; s_0: a[-k, -2*i + k] = a[-k, -2*i + k] + <-i + k + 2> * t_b[0]; } } for j = (i - 20)/3 .. min(i + 1, (2*i - 3)/4) { } }",
		},
		{
			"array a[9]; for i = 0 .. 1 { for j = 0 .. 1 { } } for i = 2 .. 3 { for j = 4 .. 5 { } for k = 6 .. 7 { } }",
			"array a[9]; array t_b[1]; for i = -3 .. -2 { for k = -7 .. -6 { } for j = -5 .. -4 { } } for i = -1 .. 0 { for j = -1 .. 0 { } }",
		},
	} {
		q, e := diff.Transposed(program(t, c.text))
		same(t, c.text, made(q, e), c.want)
	}
}

// P9.4: the errors are those of the program, ErrState, and those of the result.
func TestTransposedErrors(t *testing.T) {
	k38, k39 := strings.Repeat("k", api.MaxName-2), strings.Repeat("k", api.MaxName-1)
	sum := func(many int) string { return strings.Repeat("a[0] + ", many-1) + "a[0]" }
	for _, c := range []struct {
		text string
		want api.Errno
	}{
		{"array a[3]; " + k38 + ": a[0] = a[1];", api.OK},
		{"array a[3]; " + k39 + ": a[0] = 0;", api.ErrName},
		// From the tenth read on, names are longer.
		{"array a[3]; " + k38 + ": a[0] = " + sum(10) + ";", api.OK},
		{"array a[3]; " + k38 + ": a[0] = " + sum(11) + ";", api.ErrName},
		{"array t_b[3];", api.ErrTwice},
		{"array a[3]; for t_b = 0 .. 1 { }", api.ErrTwice},
		{"array a[3]; t_b: a[0] = 0;", api.OK},
		{"array a[3]; t: a[0] = a[0]; t_t: a[0] = 0;", api.OK},
		{"array a[3]; t: a[0] = a[0]; t_t_t: a[0] = 0;", api.OK},
		{"array s_t[3]; s: s_t[0] = 0;", api.OK},
		{declared(19, 1), api.OK},
		{declared(20, 1), api.ErrLarge},
		{declared(10, 1_000), api.OK},
		{"array a[20000];", api.ErrFull},
		{"array a[19999];", api.OK},
		{"array a[1]; " + statements(100), api.OK},
		{"array a[1]; " + statements(101), api.ErrLarge},
		{"array a[1]; if 1 >= 0 { } " + statements(100), api.ErrLarge},
		// Factors make an expression deeper, if they are no numbers.
		{"array a[1]; for i = 0 .. 1 { s: a[0] = " + chain("<i>", 10) + "; }", api.OK},
		{"array a[1]; for i = 0 .. 1 { s: a[0] = " + chain("<i>", 11) + "; }", api.OK},
		{"array a[1]; for i = 0 .. 1 { s: a[0] = " + chain("<i>", 12) + "; }", api.ErrLarge},
		{"array a[1]; for i = 0 .. 1 { s: a[0] = " + chain("2", 12) + "; }", api.OK},
		// What is not linear comes ahead of the result.
		{"array t_b[3]; s: t_b[0] = 1;", api.ErrState},
		{"array a[3]; " + k39 + ": a[0] = a[0] * a[0];", api.ErrState},
	} {
		q, e := diff.Transposed(program(t, c.text))
		same(t, c.text, e, c.want)
		if e != api.OK {
			same(t, "result", q, api.Program{})
		}
	}
	for _, c := range wrongs() {
		q, e := diff.Transposed(c.program)
		same(t, textOf(c.program), made(q, e), fmt.Sprint("error ", int(c.want)))
	}
	// Nothing is run.
	q, e := diff.Transposed(program(t, "array a[3]; for i = 0 .. 200000 { s: a[7] = a[-1]; }"))
	same(t, "no run", made(q, e), "array a[3]; array t_b[1]; for i = -200000 .. 0 { s_t: t_b[0] = a[7]; s_z: a[7] = 0; s_0: a[-1] = a[-1] + t_b[0]; }")
}
