package diff_test

import (
	"fmt"
	"strings"
	"testing"

	"warpbeam/api"
	"warpbeam/diff"
	"warpbeam/nest"
)

// P9.1: the derivatives of expressions, which Forward sets.
func TestDerivatives(t *testing.T) {
	for _, c := range []struct{ text, want string }{
		{"0", "0"},
		{"7", "0"},
		{"<5>", "0"},
		{"<i - 2*j>", "0"},
		{"a[i + 1]", "a_d[i + 1]"},
		{"b[i, 2*j]", "b_d[i, 2*j]"},
		{"a[0] + a[1]", "a_d[0] + a_d[1]"},
		{"a[0] - a[1]", "a_d[0] - a_d[1]"},
		{"a[0] - a[0]", "a_d[0] - a_d[0]"},
		{"a[0] + 5", "a_d[0]"},
		{"5 + a[0]", "a_d[0]"},
		{"a[0] - <i>", "a_d[0]"},
		{"<i> - a[0]", "0 - a_d[0]"},
		{"a[0] * a[1]", "a_d[0] * a[1] + a[0] * a_d[1]"},
		{"a[0] * a[0]", "a_d[0] * a[0] + a[0] * a_d[0]"},
		{"a[0] * 3", "a_d[0] * 3"},
		{"3 * a[0]", "3 * a_d[0]"},
		{"<i> * a[0]", "<i> * a_d[0]"},
		{"a[0] * 1", "a_d[0]"},
		{"<1> * a[0]", "a_d[0]"},
		{"a[0] * 0", "0"},
		{"a[0] * <0> * a[1]", "0"},
		{"(2 + 3) * a[0]", "5 * a_d[0]"},
		{"(a[0] + 1) * (a[1] - 2)", "a_d[0] * (a[1] - 2) + (a[0] + 1) * a_d[1]"},
		{"(a[0] + 0) * (1 * a[1])", "a_d[0] * a[1] + a[0] * a_d[1]"},
		{"a[0] * a[1] * a[2]", "(a_d[0] * a[1] + a[0] * a_d[1]) * a[2] + a[0] * a[1] * a_d[2]"},
		{"a[0] * (a[1] * a[2])", "a_d[0] * (a[1] * a[2]) + a[0] * (a_d[1] * a[2] + a[1] * a_d[2])"},
		{"(a[0] - a[1]) * (a[0] - a[1])", "(a_d[0] - a_d[1]) * (a[0] - a[1]) + (a[0] - a[1]) * (a_d[0] - a_d[1])"},
		{"<i> * <j> + 3 * 4", "0"},
		{"a[0] - (3 - a[1] * 2)", "a_d[0] - (0 - a_d[1] * 2)"},
	} {
		q, e := diff.Forward(program(t, "array a[9]; array b[9, 9]; for i = 0 .. 2 { for j = 0 .. 2 { s: a[8] = "+c.text+"; } }"))
		text := made(q, e)
		_, text, _ = strings.Cut(text, "s_d: a_d[8] = ")
		text, _, _ = strings.Cut(text, ";")
		same(t, c.text, text, c.want)
	}
}

// P9.2: arrays and statements, with loops and conditions around them.
func TestForward(t *testing.T) {
	for _, c := range []struct{ text, want string }{
		{"", ""},
		{"array a[3]; array b[2, 4];", "array a[3]; array a_d[3]; array b[2, 4]; array b_d[2, 4];"},
		{"array a[3]; for i = 0 .. 1 { }", "array a[3]; array a_d[3]; for i = 0 .. 1 { }"},
		{"array a[3]; s: a[2] = a[0] * a[1] + 5;", "array a[3]; array a_d[3]; s_d: a_d[2] = a_d[0] * a[1] + a[0] * a_d[1]; s: a[2] = a[0] * a[1] + 5;"},
		{
			"array b[3]; array a[9, 9]; for i = max(0, 1) .. (7)/2 { if i - 1 >= 0, 3 >= 0 { s: a[i, 2*i] = b[2] * 1 + 0; t: b[0] = 7; } for i_d = i .. 4 { u: a[0, i_d] = <i> * a[i, i_d]; } } v: b[0] = b[1];",
			"array b[3]; array b_d[3]; array a[9, 9]; array a_d[9, 9]; for i = max(0, 1) .. (7)/2 { if i - 1 >= 0, 3 >= 0 { s_d: a_d[i, 2*i] = b_d[2]; s: a[i, 2*i] = b[2] * 1 + 0; t_d: b_d[0] = 0; t: b[0] = 7; } for i_d = i .. 4 { u_d: a_d[0, i_d] = <i> * a_d[i, i_d]; u: a[0, i_d] = <i> * a[i, i_d]; } } v_d: b_d[0] = b_d[1]; v: b[0] = b[1];",
		},
	} {
		q, e := diff.Forward(program(t, c.text))
		same(t, c.text, made(q, e), c.want)
	}
}

// statements makes so many statements.
func statements(many int) string {
	text := ""
	for i := range many {
		text += "s" + fmt.Sprint(i) + ": a[0] = a[0]; "
	}
	return text
}

// declared makes so many arrays.
func declared(many, size int) string {
	text := ""
	for i := range many {
		text += fmt.Sprintf("array a%d[%d]; ", i, size)
	}
	return text
}

// chain is a product of so many factors, each one but the last one in the same form.
func chain(factor string, many int) string {
	text := "a[0]"
	for range many - 1 {
		text = "(" + factor + ") * (" + text + ")"
	}
	return text
}

// P9.2: the errors are those of the program, then those of the result.
func TestForwardErrors(t *testing.T) {
	k38, k39 := strings.Repeat("k", api.MaxName-2), strings.Repeat("k", api.MaxName-1)
	for _, c := range []struct {
		text string
		want api.Errno
	}{
		{"array " + k38 + "[3]; s: " + k38 + "[0] = 1;", api.OK},
		{"array " + k39 + "[3];", api.ErrName},
		{"array a[3]; " + k38 + ": a[0] = 1;", api.OK},
		{"array a[3]; " + k39 + ": a[0] = 1;", api.ErrName},
		{"array a[3]; for " + k39 + " = 0 .. 1 { }", api.OK},
		// Names that are taken: by arrays on either side, by loops, by statements on either side.
		{"array a[3]; array a_d[3];", api.ErrTwice},
		{"array a_d[3]; array a[3];", api.ErrTwice},
		{"array a_d[3];", api.OK},
		{"array a[3]; for a_d = 0 .. 1 { }", api.ErrTwice},
		{"array a[3]; for s_d = 0 .. 1 { s: a[0] = 1; }", api.OK},
		{"array a[3]; s: a[0] = 1; s_d: a[1] = 1;", api.ErrTwice},
		{"array a[3]; s_d: a[0] = 1; s: a[1] = 1;", api.ErrTwice},
		{"array a[3]; s_d: a[0] = 1; a_d: a[1] = 1;", api.OK},
		{declared(10, 1_000), api.OK},
		{declared(11, 1), api.ErrLarge},
		{declared(10, 1_001), api.ErrFull},
		{"array a[1]; " + statements(150), api.OK},
		{"array a[1]; " + statements(151), api.ErrLarge},
		{"array a[1]; for i = 0 .. 1 { } for i = 0 .. 1 { } " + statements(149), api.OK},
		{"array a[1]; for i = 0 .. 1 { } for i = 0 .. 1 { } for i = 0 .. 1 { } " + statements(149), api.ErrLarge},
		// A derivative can be deeper than its expression, but numbers make it no deeper.
		{"array a[1]; s: a[0] = " + chain("a[0]", 6) + ";", api.OK},
		{"array a[1]; s: a[0] = " + chain("a[0]", 7) + ";", api.ErrLarge},
		{"array a[1]; s: a[0] = " + chain("2", 12) + ";", api.OK},
		{"array a[1]; s: a[0] = " + chain("a[0] * 0 + 2", 10) + ";", api.OK},
	} {
		q, e := diff.Forward(program(t, c.text))
		same(t, c.text, e, c.want)
		if e != api.OK {
			same(t, "result", q, api.Program{})
		}
	}
	// Of several errors the first one in the result counts.
	q, e := diff.Forward(program(t, "array a[3]; array a_d[3]; "+k39+": a[0] = "+chain("a[0]", 7)+"; "))
	same(t, "array", made(q, e), "error 6")
	q, e = diff.Forward(program(t, "array a[3]; "+k39+": a[0] = "+chain("a[0]", 7)+"; "))
	same(t, "statement", made(q, e), "error 5")
	for _, c := range wrongs() {
		q, e := diff.Forward(c.program)
		same(t, textOf(c.program), made(q, e), fmt.Sprint("error ", int(c.want)))
	}
	// Nothing is run.
	for _, c := range failures(t) {
		q, e := diff.Forward(c.program)
		same(t, textOf(c.program), []any{nest.Check(q), e}, []any{api.OK, api.OK})
	}
}

// P9.2: values and derivatives at the end.
func TestDual(t *testing.T) {
	for _, c := range []struct {
		text         string
		g, d         []api.Grid
		values, want string
	}{
		{"", nil, nil, "[]", "[]"},
		{"array b[2]; array a[1];", grids(grid("b", 4, 5)), grids(grid("b", 6, 7)), "[{Key:a Values:[0]} {Key:b Values:[4 5]}]", "[{Key:a Values:[0]} {Key:b Values:[6 7]}]"},
		{"array a[3]; s: a[2] = a[0] * a[1] + 5;", grids(grid("a", 2, 3, 0)), grids(grid("a", 1, 0, 0)), "[{Key:a Values:[2 3 11]}]", "[{Key:a Values:[1 0 3]}]"},
		{"array a[3]; s: a[2] = a[0] * a[1] + 5;", grids(grid("a", 2, 3, 0)), grids(grid("a", 10, 100, 9)), "[{Key:a Values:[2 3 11]}]", "[{Key:a Values:[10 100 230]}]"},
		{"array a[2]; s: a[0] = a[1] - a[0];", grids(grid("a", 2, 1)), grids(grid("a", 7, 3)), "[{Key:a Values:[1000002 1]}]", "[{Key:a Values:[999999 3]}]"},
		{"array a[2]; s: a[0] = 5; t: a[1] = <-4>;", nil, grids(grid("a", 7, 3)), "[{Key:a Values:[5 999999]}]", "[{Key:a Values:[0 0]}]"},
		// x to the power of 5: the derivative is 5 times its fourth power.
		{"array a[2]; s: a[1] = a[0]; for i = 1 .. 4 { t: a[1] = a[1] * a[0]; }", grids(grid("a", 3, 0)), grids(grid("a", 1, 0)), "[{Key:a Values:[3 243]}]", "[{Key:a Values:[1 405]}]"},
		{"array a[4]; for i = 1 .. 3 { if i - 2 >= 0 { s: a[i] = <2*i> * a[i - 1]; } }", grids(grid("a", 1, 1, 1, 1)), grids(grid("a", 5, 6, 7, 8)), "[{Key:a Values:[1 1 4 24]}]", "[{Key:a Values:[5 6 24 144]}]"},
		{"array a[1]; array b[1]; s: a[0] = 1000002 * b[0] * b[0];", grids(grid("b", 1_000_000)), grids(grid("b", 1)), "[{Key:a Values:[999994]} {Key:b Values:[1000000]}]", "[{Key:a Values:[6]} {Key:b Values:[1]}]"},
	} {
		v, d, e := diff.Dual(program(t, c.text), c.g, c.d)
		same(t, c.text, []any{v, d, e}, fmt.Sprintf("[%s %s 0]", c.values, c.want))
	}
}

// P9.2 and P9.3: errors of the program, its run, its grids, and the other grids.
func TestErrorsOfRuns(t *testing.T) {
	x := input{g: nil, from: "a", to: "a", key: "s"}
	for _, c := range wrongs() {
		x.g, x.more, x.from = grids(grid("!")), grids(grid("!")), "!"
		fails(t, textOf(c.program), c.program, x, all, c.want)
	}
	for _, c := range failures(t) {
		x.g, x.more, x.from = grids(grid("!")), grids(grid("!")), "!"
		fails(t, textOf(c.program), c.program, x, withRun, c.want)
	}
	p := program(t, "array b[1]; array a[3]; s: a[0] = b[0];")
	for i, c := range noGrids() {
		for _, other := range noGrids() {
			x.g, x.more, x.from = c.grids, other.grids, "!"
			fails(t, fmt.Sprint("first grids ", i), p, x, withRun, c.want)
		}
		x.g, x.more, x.from = grids(grid("a", 1, 2, 3)), c.grids, "a"
		fails(t, fmt.Sprint("other grids ", i), p, x, "Dual Gradient", c.want)
	}
}
