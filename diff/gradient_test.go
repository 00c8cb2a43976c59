package diff_test

import (
	"fmt"
	"slices"
	"strings"
	"testing"

	"warpbeam/api"
	"warpbeam/diff"
)

// P9.3: numbers go from what is set to what is read.
func TestGradient(t *testing.T) {
	for _, c := range []struct {
		what, text string
		g, out     []api.Grid
		want       string
	}{
		{"nothing", "", nil, nil, "[]"},
		{"no instance", "array b[2]; array a[1]; for i = 1 .. 0 { s: a[0] = 1; }", nil, grids(grid("b", 6, 7)), "[{Key:a Values:[0]} {Key:b Values:[6 7]}]"},
		{"no out", "array b[2]; array a[1]; s: a[0] = b[1];", grids(grid("a", 5)), nil, "[{Key:a Values:[0]} {Key:b Values:[0 0]}]"},
		{"the example", "array a[3]; s: a[2] = a[0] * a[1] + 5;", grids(grid("a", 2, 3, 0)), grids(grid("a", 0, 0, 1)), "[{Key:a Values:[3 2 0]}]"},
		{"what is read stays", "array a[3]; s: a[2] = a[0] * a[1] + 5;", grids(grid("a", 2, 3, 0)), grids(grid("a", 10, 20, 4)), "[{Key:a Values:[22 28 0]}]"},
		{"what is set is lost", "array a[1]; s: a[0] = 7;", nil, grids(grid("a", 9)), "[{Key:a Values:[0]}]"},
		{"a cell that is read and set", "array a[1]; s: a[0] = a[0] * 3;", nil, grids(grid("a", 9)), "[{Key:a Values:[27]}]"},
		{"each read by itself", "array a[1]; s: a[0] = a[0] * a[0];", grids(grid("a", 5)), grids(grid("a", 2)), "[{Key:a Values:[20]}]"},
		{"reads in sums", "array a[2]; s: a[1] = a[0] - (a[0] - (a[0] + a[0]));", nil, grids(grid("a", 0, 3)), "[{Key:a Values:[6 0]}]"},
		{"subtracted", "array a[2]; s: a[1] = 0 - a[0];", nil, grids(grid("a", 0, 3)), "[{Key:a Values:[1000000 0]}]"},
		{"values as they were read", "array a[2]; s: a[1] = a[0] * a[0]; t: a[0] = a[1] * a[1];", grids(grid("a", 3, 0)), grids(grid("a", 1, 0)), "[{Key:a Values:[108 0]}]"},
		{"values as they were read, not as they are at the end", "array a[2]; s: a[1] = a[1] * a[0]; t: a[0] = 100;", grids(grid("a", 3, 4)), grids(grid("a", 1, 1)), "[{Key:a Values:[4 3]}]"},
		{"forms", "array a[4]; for i = 1 .. 3 { s: a[i] = <-2*i> * a[i - 1]; }", nil, grids(grid("a", 0, 0, 0, 1)), "[{Key:a Values:[999955 0 0 0]}]"},
		{"forms of several loops", "array a[2, 3]; array b[1]; for j = 0 .. 1 { for i = 0 .. 2 { s: b[0] = b[0] + <10*i + j> * a[j, i]; } }", nil, grids(grid("b", 1)), "[{Key:a Values:[0 10 20 1 11 21]} {Key:b Values:[1]}]"},
		{"not simple", "array a[2]; s: a[1] = 0 * a[0] + a[0] * (2 - 1) * <3>;", nil, grids(grid("a", 0, 1)), "[{Key:a Values:[3 0]}]"},
		{"powers", "array a[2]; s: a[1] = a[0]; for i = 1 .. 4 { t: a[1] = a[1] * a[0]; }", grids(grid("a", 3, 0)), grids(grid("a", 0, 1)), "[{Key:a Values:[405 0]}]"},
		{"modulo Prime", "array a[2]; s: a[0] = a[0] * a[1];", grids(grid("a", 1_000_000, 999_999)), grids(grid("a", 1_000_001, 1_000_002)), "[{Key:a Values:[8 5]}]"},
	} {
		got, e := diff.Gradient(program(t, c.text), c.g, c.out)
		same(t, c.what, []any{got, e}, "["+c.want+" 0]")
	}
}

// Z6: forms can be far beyond Prime, and so can their products.
func TestLargeForms(t *testing.T) {
	const f = "<1000*h + 1000*i + 1000*j + 1000*k + 1000000>"
	loops := ""
	for _, name := range []string{"h", "i", "j", "k"} {
		loops += "for " + name + " = 1000000 .. 1000000 { "
	}
	p := program(t, "array a[1]; "+loops+"s: a[0] = a[0] * ("+f+" * ("+f+" * "+f+")); } } } }")
	n := modulo(4_001_000_000)
	want := grids(grid("a", modulo(7*modulo(n*modulo(n*n)))))
	same(t, "Dual", dual(t, p, nil, grids(grid("a", 7))), want)
	same(t, "Gradient", gradient(t, p, nil, grids(grid("a", 7))), want)
	p = program(t, "array a[1]; "+loops+"s: a[0] = a[0] * <-1000*h - 1000*i>; } } } }")
	want = grids(grid("a", modulo(7*modulo(-2_000_000_000))))
	same(t, "Dual", dual(t, p, nil, grids(grid("a", 7))), want)
	same(t, "Gradient", gradient(t, p, nil, grids(grid("a", 7))), want)
}

// P9.5: rows are cells at the end, columns those at first.
func TestJacobian(t *testing.T) {
	const three = "array b[2]; array a[3]; array c[1, 2]; s: c[0, 1] = a[0] * a[2] - b[1]; t: a[0] = c[0, 1] + 7; "
	g := grids(grid("a", 2, 3, 5), grid("b", 7, 11), grid("c", 13, 17))
	for _, c := range []struct{ text, from, to, want string }{
		{three, "a", "a", "[[5 0 2] [0 1 0] [0 0 1]]"},
		{three, "b", "a", "[[0 1000002] [0 0] [0 0]]"},
		{three, "a", "b", "[[0 0 0] [0 0 0]]"},
		{three, "b", "b", "[[1 0] [0 1]]"},
		{three, "a", "c", "[[0 0 0] [5 0 2]]"},
		{three, "b", "c", "[[0 0] [0 1000002]]"},
		{three, "c", "a", "[[0 0] [0 0] [0 0]]"},
		{three, "c", "c", "[[1 0] [0 0]]"},
		{"array a[3]; array b[2]; array c[2];", "b", "a", "[[0 0] [0 0] [0 0]]"},
	} {
		p := program(t, c.text)
		m, e := diff.Jacobian(p, g, c.from, c.to)
		same(t, c.from+" "+c.to, []any{m, e}, "["+c.want+" 0]")
		same(t, c.from+" "+c.to, m, naiveJacobian(t, p, g, c.from, c.to))
	}
}

// P9.5: the errors of Jacobian.
func TestJacobianErrors(t *testing.T) {
	p := program(t, "array a[3]; array b[2]; s: a[0] = b[1];")
	for _, c := range []struct {
		from, to string
		want     api.Errno
	}{
		{"a", "b", api.OK},
		{"c", "b", api.ErrNone},
		{"b", "c", api.ErrNone},
		{"s", "b", api.ErrNone},
		{"c", "!", api.ErrName},
		{"!", "c", api.ErrName},
		{strings.Repeat("z", api.MaxName), "a", api.ErrNone},
	} {
		m, e := diff.Jacobian(p, nil, c.from, c.to)
		same(t, c.from+" "+c.to, e, c.want)
		if e != api.OK {
			same(t, "result", m, [][]int{})
		}
	}
	for _, name := range noNames() {
		x := input{from: name, to: "a", key: "s"}
		fails(t, "from "+name, p, x, "Jacobian", api.ErrName)
		x.from, x.to = "a", name
		fails(t, "to "+name, p, x, "Jacobian", api.ErrName)
	}
	for _, c := range []struct {
		a, b int
		want api.Errno
	}{
		{100, 100, api.OK},
		{100, 101, api.ErrFull},
		{10_000, 1, api.OK},
		{10_001, 1, api.ErrFull},
		{20, 500, api.OK},
		{21, 477, api.ErrFull},
	} {
		p := program(t, fmt.Sprintf("array a[%d]; array b[%d]; s: a[%d] = b[%d] * 3;", c.a, c.b, c.a-1, c.b-1))
		for _, turned := range []bool{false, true} {
			from, to, want := "b", "a", 3
			if turned {
				from, to, want = "a", "b", 0
			}
			m, e := diff.Jacobian(p, nil, from, to)
			same(t, fmt.Sprint(c, turned), e, c.want)
			if e == api.OK {
				same(t, "last number", m[len(m)-1][len(m[0])-1], want)
				same(t, "numbers", len(m)*len(m[0]), c.a*c.b)
			} else {
				same(t, "result", m, [][]int{})
			}
		}
		_, e := diff.Jacobian(p, nil, "a", "c")
		same(t, "ahead of ErrFull", e, api.ErrNone)
	}
}

// P9.5: degrees of expressions, made simple.
func TestDegree(t *testing.T) {
	for _, c := range []struct {
		text string
		want int
	}{
		{"0", 0},
		{"7", 0},
		{"<2*i - j>", 0},
		{"<i> * <i> + 5", 0},
		{"a[i]", 1},
		{"a[0] + b[1, 1]", 1},
		{"a[0] - 5", 1},
		{"5 - a[0]", 1},
		{"5 * a[0] * <i>", 1},
		{"a[0] * a[1]", 2},
		{"a[0] * a[0] + a[0]", 2},
		{"a[0] + a[0] * a[0]", 2},
		{"a[0] - a[0] * a[0]", 2},
		{"a[0] * a[0] - a[0] * a[0]", 2},
		{"(a[0] * a[1] + a[2]) * (a[0] + 1) * a[2]", 4},
		{"a[0] * (a[1] * (a[2] * a[3]))", 4},
		{"a[0] * a[1] * 0 + a[2]", 1},
		{"a[0] * a[1] * (2 - 2)", 0},
		{"a[0] * <0>", 0},
		{"a[0] * (a[1] * 0 + 1)", 1},
	} {
		n, e := diff.Degree(program(t, around+c.text+"; } }"), "s")
		same(t, c.text, []any{n, e}, []any{c.want, api.OK})
	}
	// All factors that there can be.
	p := program(t, "array a[1]; s: a[0] = a[0];")
	x := p.Steps[0].Expr
	for range api.MaxDepth - 1 {
		x = of(api.OpMul, x, x)
	}
	p.Steps[0].Expr = x
	n, e := diff.Degree(p, "s")
	same(t, "most", []any{n, e}, []any{2_048, api.OK})
}

// P9.5: of several statements that one which was asked for; the errors of Degree.
func TestDegreeErrors(t *testing.T) {
	p := program(t, "array a[3]; for i = 0 .. 1 { s: a[0] = 1; if i >= 0 { t: a[0] = a[1]; } } u: a[0] = a[2] * a[1];")
	for key, want := range map[string]int{"s": 0, "t": 1, "u": 2} {
		n, e := diff.Degree(p, key)
		same(t, key, []any{n, e}, []any{want, api.OK})
	}
	for _, name := range noNames() {
		fails(t, "name "+name, p, input{from: "a", to: "a", key: name}, "Degree", api.ErrName)
	}
	for _, key := range []string{"v", "i", "a", "s_d"} {
		fails(t, "name "+key, p, input{from: "a", to: "a", key: key}, "Degree", api.ErrNone)
	}
	// Nothing is run.
	for _, c := range failures(t) {
		if i := slices.IndexFunc(c.program.Steps, func(s api.Step) bool { return s.Kind == api.StepSet }); i >= 0 {
			_, e := diff.Degree(c.program, c.program.Steps[i].Name)
			same(t, textOf(c.program), e, api.OK)
		}
	}
}
