package diff_test

import (
	"fmt"
	"slices"
	"strings"
	"testing"

	"warpbeam/api"
	"warpbeam/diff"
	"warpbeam/nest"
	"warpbeam/run"
)

// same compares values as they are printed, as an empty list and a nil one are the same (Z5).
func same(t *testing.T, what string, got, want any) {
	t.Helper()
	if g, w := fmt.Sprintf("%+v", got), fmt.Sprintf("%+v", want); g != w {
		t.Errorf("%s: got %s, want %s", short(what), short(g), short(w))
	}
}

func short(s string) string {
	if len(s) > 900 {
		return s[:900] + " .."
	}
	return s
}

// program reads a text that has to be right.
func program(t *testing.T, text string) api.Program {
	t.Helper()
	p, at, e := nest.Read(text)
	if e != api.OK {
		t.Fatalf("Read(%q): %d, %v", short(text), at, e)
	}
	return p
}

// made is the text of a program that has been made, with single blanks, or the error.
func made(p api.Program, e api.Errno) string {
	if e != api.OK {
		if len(p.Arrays)+len(p.Steps) > 0 {
			return fmt.Sprint("a program with error ", int(e))
		}
		return fmt.Sprint("error ", int(e))
	}
	text, e := nest.Text(p)
	if e != api.OK {
		return fmt.Sprint(p, e)
	}
	return strings.Join(strings.Fields(text), " ")
}

// around stands around a statement, so that expressions can be read.
const around = "array a[9]; array b[9, 9]; array c[9, 9]; for i = 0 .. 2 { for j = 0 .. 2 { s: a[8] = "

// expr reads an expression that has to be right.
func expr(t *testing.T, text string) api.Expr {
	t.Helper()
	return program(t, around+text+"; } }").Steps[0].Body[0].Body[0].Expr
}

// written is the text of an expression.
func written(t *testing.T, x api.Expr) string {
	t.Helper()
	p := program(t, around+"0; } }")
	p.Steps[0].Body[0].Body[0].Expr = x
	text, e := nest.Text(p)
	if e != api.OK {
		t.Fatal(x, e)
	}
	_, text, _ = strings.Cut(text, "a[8] = ")
	text, _, _ = strings.Cut(text, ";")
	return text
}

// grid makes the grid of an array.
func grid(key string, values ...int) api.Grid { return api.Grid{Key: key, Values: values} }

func grids(l ...api.Grid) []api.Grid { return l }

// forAll makes a grid for each array of a program, by Key.
func forAll(p api.Program, value func(key string, cell int) int) []api.Grid {
	var l []api.Grid
	for _, a := range p.Arrays {
		g := api.Grid{Key: a.Key}
		many, _ := nest.Cells(api.Program{Arrays: []api.Array{a}})
		for cell := range many {
			g.Values = append(g.Values, value(a.Key, cell))
		}
		l = append(l, g)
	}
	slices.SortFunc(l, func(x, y api.Grid) int { return strings.Compare(x.Key, y.Key) })
	return l
}

// unit makes grids of zeros with a single 1.
func unit(p api.Program, array string, at int) []api.Grid {
	return forAll(p, func(key string, cell int) int {
		if key == array && cell == at {
			return 1
		}
		return 0
	})
}

// ran are the grids of run.Run, which has to have no error.
func ran(t *testing.T, p api.Program, g []api.Grid) []api.Grid {
	t.Helper()
	out, e := run.Run(p, g)
	if e != api.OK {
		t.Fatal(textOf(p), e)
	}
	return out
}

// dual are the derivatives of Dual, which has to have no error.
func dual(t *testing.T, p api.Program, g, d []api.Grid) []api.Grid {
	t.Helper()
	_, out, e := diff.Dual(p, g, d)
	if e != api.OK {
		t.Fatal(textOf(p), e)
	}
	return out
}

func gradient(t *testing.T, p api.Program, g, out []api.Grid) []api.Grid {
	t.Helper()
	first, e := diff.Gradient(p, g, out)
	if e != api.OK {
		t.Fatal(textOf(p), e)
	}
	return first
}

// valuesOf are the values of an array in grids.
func valuesOf(g []api.Grid, key string) []int {
	for _, x := range g {
		if x.Key == key {
			return x.Values
		}
	}
	return nil
}

// textOf is a program, to be printed.
func textOf(p api.Program, more ...any) string {
	text, _ := nest.Text(p)
	return text + fmt.Sprint(more...)
}

// modulo is a number as a value of a cell.
func modulo(n int) int { return (n%api.Prime + api.Prime) % api.Prime }

// names that are none, each for a reason of its own.
func noNames() []string {
	return []string{"", "1a", "_a", "A", "a-b", "a b", "é", "a\n", "a\x00", strings.Repeat("a", api.MaxName+1), "array", "for", "if", "max", "min"}
}

// outside are ints that are not from low to high.
func outside(low, high int) []int {
	const most = int(^uint(0) >> 1)
	return []int{low - 1, high + 1, most, most - 1, -most, -most - 1}
}

// failure is a program with the error that it has.
type failure struct {
	program api.Program
	want    api.Errno
}

// wrongs are programs that the check refuses.
func wrongs() []failure {
	return []failure{
		{api.Program{Steps: []api.Step{{Kind: -1}}}, api.ErrKind},
		{api.Program{Arrays: []api.Array{{Key: "A"}}}, api.ErrName},
		{api.Program{Arrays: make([]api.Array, api.MaxArrays+1)}, api.ErrLarge},
		{api.Program{Arrays: []api.Array{{Key: "a"}}}, api.ErrNone},
		{api.Program{Arrays: []api.Array{{Key: "a", Sizes: []int{api.MaxCells}}, {Key: "b", Sizes: []int{1}}}}, api.ErrFull},
	}
}

// failures are programs whose run has an error.
func failures(t *testing.T) []failure {
	t.Helper()
	return []failure{
		{program(t, "array a[4]; for i = 1000000 .. 1000000 { for j = i + 1 .. i + 1 { } }"), api.ErrArg},
		{program(t, "array a[4]; for i = 0 .. 50000 { s: a[0] = 1; }"), api.ErrFull},
		{program(t, "array a[4]; for i = 0 .. 200000 { }"), api.ErrFull},
		{program(t, "array a[4]; s: a[4] = 1;"), api.ErrRule},
		{program(t, "array a[4]; s: a[0] = a[-1];"), api.ErrRule},
		{program(t, "array a[4]; for i = 0 .. 49999 { s: a[0] = a[0] + a[1] + a[2] + a[3]; }"), api.ErrLarge},
	}
}

// wrongGrids are grids with the error that they have.
type wrongGrids struct {
	grids []api.Grid
	want  api.Errno
}

// noGrids are wrong for a program with an array a that has 3 cells, and b that has 1.
func noGrids() []wrongGrids {
	return []wrongGrids{
		{grids(grid("A", 1, 2, 3)), api.ErrName},
		{grids(grid("b", 1), grid("a", 1, 2, 3)), api.ErrOrder},
		{grids(grid("a", 1, 2, 3), grid("c", 1)), api.ErrNone},
		{grids(grid("a", 1, 2)), api.ErrForm},
		{grids(grid("b", 1, 2)), api.ErrForm},
		{grids(grid("b", -1)), api.ErrArg},
		{grids(grid("a", 1, 2, api.Prime)), api.ErrArg},
	}
}

// input is all arguments of the functions, but for the program.
type input struct {
	g, more       []api.Grid // more is d, or out
	from, to, key string
}

// results are those of all functions with a program, by name.
func results(p api.Program, x input) map[string]string {
	all := map[string]string{}
	add := func(name string, values ...any) { all[name] = fmt.Sprintf("%+v", values) }
	q, e := diff.Forward(p)
	add("Forward", q, int(e))
	v, d, e := diff.Dual(p, x.g, x.more)
	add("Dual", v, d, int(e))
	g, e := diff.Gradient(p, x.g, x.more)
	add("Gradient", g, int(e))
	is, e := diff.Linear(p)
	add("Linear", is, int(e))
	q, e = diff.Transposed(p)
	add("Transposed", q, int(e))
	m, e := diff.Jacobian(p, x.g, x.from, x.to)
	add("Jacobian", m, int(e))
	n, e := diff.Degree(p, x.key)
	add("Degree", n, int(e))
	return all
}

// all and withRun are the functions with a program, and those that run it.
const (
	all     = "Forward Dual Gradient Linear Transposed Jacobian Degree"
	withRun = "Dual Gradient Jacobian"
)

// failed is what a function returns with an error: zero values and the error.
func failed(name string, e api.Errno) string {
	n := int(e)
	switch name {
	case "Forward", "Transposed":
		return fmt.Sprintf("%+v", []any{api.Program{}, n})
	case "Dual":
		return fmt.Sprintf("%+v", []any{[]api.Grid{}, []api.Grid{}, n})
	case "Linear":
		return fmt.Sprint([]any{false, n})
	case "Degree":
		return fmt.Sprint([]any{0, n})
	}
	return fmt.Sprint([]any{[]int{}, n})
}

// fails checks that some functions have an error, and no others.
func fails(t *testing.T, what string, p api.Program, x input, names string, e api.Errno) {
	t.Helper()
	these := strings.Fields(names)
	for name, got := range results(p, x) {
		if slices.Contains(these, name) {
			same(t, name+" of "+what, got, failed(name, e))
		} else if got == failed(name, e) {
			t.Errorf("%s of %s: error %d, too", name, what, e)
		}
	}
}
