package run_test

import (
	"fmt"
	"strings"
	"testing"

	"warpbeam/api"
	"warpbeam/run"
)

const last = api.Prime - 1

func TestCheckGrids(t *testing.T) {
	p := program(t, "array b[2, 3]; array a[2]; array c[1]; s: a[9] = 1;")
	six := []int{0, 1, 2, 3, 4, last}
	for _, c := range []struct {
		what string
		g    []api.Grid
		want api.Errno
	}{
		{"none", nil, api.OK},
		{"all", grids(grid("a", 0, last), grid("b", six...), grid("c", 5)), api.OK},
		{"some", grids(grid("a", 0, 1), grid("c", 5)), api.OK},
		{"last", grids(grid("c", 5)), api.OK},
		{"not rising", grids(grid("b", six...), grid("a", 0, 1)), api.ErrOrder},
		{"twice", grids(grid("a", 0, 1), grid("a", 0, 1)), api.ErrOrder},
		{"unknown", grids(grid("d", 5)), api.ErrNone},
		{"a statement", grids(grid("s", 5)), api.ErrNone},
		{"no values", grids(grid("a")), api.ErrForm},
		{"too few", grids(grid("a", 0)), api.ErrForm},
		{"too many", grids(grid("a", 0, 1, 2)), api.ErrForm},
		{"as many as in the first dimension", grids(grid("b", 0, 1)), api.ErrForm},
		{"below 0", grids(grid("a", 0, -1)), api.ErrArg},
		{"too great", grids(grid("a", api.Prime, 0)), api.ErrArg},
		// For each grid all errors in order, and then the next one.
		{"name before order", grids(grid("b", six...), grid("A", 0, 1)), api.ErrName},
		{"order before unknown", grids(grid("b", six...), grid("aa", 0, 1)), api.ErrOrder},
		{"unknown before form", grids(grid("bb")), api.ErrNone},
		{"form before value", grids(grid("a", -1)), api.ErrForm},
		{"value before the next name", grids(grid("a", 0, -1), grid("")), api.ErrArg},
		{"unknown before the next order", grids(grid("x"), grid("a", 0, 1)), api.ErrNone},
		{"name before all", grids(grid("", 0), grid("a", -1)), api.ErrName},
	} {
		same(t, c.what, run.CheckGrids(p, c.g), c.want)
	}
	for _, s := range noNames() {
		same(t, s, run.CheckGrids(p, grids(grid(s, 1))), api.ErrName)
	}
	for _, n := range extremes() {
		same(t, fmt.Sprint(n), run.CheckGrids(p, grids(grid("c", n))), api.ErrArg)
	}
	same(t, "program first", run.CheckGrids(wrong(), grids(grid(""))), api.ErrKind)
	same(t, "no arrays", run.CheckGrids(api.Program{}, grids(grid("a"))), api.ErrNone)
}

func TestRun(t *testing.T) {
	for _, c := range []struct {
		text string
		g    []api.Grid
		want []api.Grid
	}{
		{"", nil, nil},
		{"array a[2];", nil, grids(grid("a", 0, 0))},
		{"array c[1]; array a[2]; array b[2, 2];", grids(grid("a", 7, 8), grid("c", last)), grids(grid("a", 7, 8), grid("b", 0, 0, 0, 0), grid("c", last))},
		{example, nil, grids(grid("a", 0, 1, 2, 3))},
		{example, grids(grid("a", 1_000_001, 9, 9, 9)), grids(grid("a", 1_000_001, 1_000_002, 0, 1))},
		{"array a[1]; s: a[0] = 1000002;", nil, grids(grid("a", last))},
		{"array a[1]; s: a[0] = 1000002 + 1;", nil, grids(grid("a", 0))},
		{"array a[1]; s: a[0] = 1000002 + 1000002;", nil, grids(grid("a", 1_000_001))},
		{"array a[1]; s: a[0] = 0 - 1;", nil, grids(grid("a", last))},
		{"array a[1]; s: a[0] = 0 - 1000002;", nil, grids(grid("a", 1))},
		{"array a[1]; s: a[0] = 5 - 5;", nil, grids(grid("a", 0))},
		{"array a[1]; s: a[0] = 1000002 * 1000002;", nil, grids(grid("a", 1))},
		{"array a[1]; s: a[0] = 1000 * 1001;", nil, grids(grid("a", 1_001_000-api.Prime))},
		{"array a[1]; s: a[0] = 1 - 2 * (3 - 4 - 5) * (6 + 7);", nil, grids(grid("a", 157))},
		{"array a[1]; s: a[0] = 9 - (5 - 3);", nil, grids(grid("a", 7))},
		// Forms can be far from 0.
		{"array a[4]; s: a[0] = <-1>; t: a[1] = <1000000>; u: a[2] = <-1000000>; v: a[3] = <0>;", nil, grids(grid("a", last, 1_000_000, 3, 0))},
		{"array a[2]; for m = 1000000 .. 1000000 { s: a[0] = <1000*m>; t: a[1] = <-1000*m + 7>; }", nil, grids(grid("a", (1000*1_000_000)%api.Prime, 7+(1000*api.Prime-1000*1_000_000)))},
		{"array a[3]; for m = 1000000 .. 1000000 { s: a[0] = <m + 3>; t: a[1] = <-m - 3>; u: a[2] = <m + 2>; }", nil, grids(grid("a", 0, 0, last))},
		{"array a[3]; for i = -1 .. 1 { s: a[i + 1] = <i> * <i> + <2*i - 1> - 3; }", nil, grids(grid("a", api.Prime-5, api.Prime-4, api.Prime-1))},
		// Cells are read before one is set, and later ones see it.
		{"array a[2]; s: a[0] = a[0] + a[1]; t: a[1] = a[0] * a[0]; u: a[0] = a[1] - a[0];", grids(grid("a", 2, 3)), grids(grid("a", 20, 25))},
		{"array b[2, 3]; array a[3]; for i = 0 .. 1 { for j = 0 .. 2 { s: b[i, j] = b[i, j] * 10 + a[2 - j]; } }", grids(grid("a", 1, 2, 3), grid("b", 1, 2, 3, 4, 5, 6)),
			grids(grid("a", 1, 2, 3), grid("b", 13, 22, 31, 43, 52, 61))},
		{"array a[4]; for i = 0 .. 3 { if i - 1 >= 0, 2 - i >= 0 { s: a[i] = 7; } }", grids(grid("a", 1, 2, 3, 4)), grids(grid("a", 1, 7, 7, 4))},
	} {
		p := program(t, c.text)
		g, e := run.Run(p, c.g)
		same(t, c.text, []any{g, e}, []any{c.want, api.OK})
		same(t, c.text, run.CheckGrids(p, g), api.OK)
	}
}

func TestErrorsOfRun(t *testing.T) {
	for _, c := range []struct {
		text string
		g    []api.Grid
		want api.Errno
	}{
		{"array a[4]; " + tooFar(), grids(grid("")), api.ErrArg},
		{"array a[4]; for i = 1 .. 200001 { }", grids(grid("")), api.ErrFull},
		{outside, grids(grid("")), api.ErrRule},
		{"array a[4]; for i = 1 .. 40001 { s: a[0] = a[0] + a[0] + a[0] + a[0]; }", grids(grid("")), api.ErrLarge},
		{example, grids(grid("")), api.ErrName},
		{example, grids(grid("a", 0, 0, 0, 0), grid("a", 0, 0, 0, 0)), api.ErrOrder},
		{example, grids(grid("b", 0, 0, 0, 0)), api.ErrNone},
		{example, grids(grid("a", 0, 0, 0)), api.ErrForm},
		{example, grids(grid("a", 0, 0, 0, -1)), api.ErrArg},
	} {
		g, e := run.Run(program(t, c.text), c.g)
		same(t, c.text, []any{g, e}, []any{[]api.Grid{}, c.want})
		g, e = run.InOrder(program(t, c.text), c.g, []int{-1})
		same(t, c.text, []any{g, e}, []any{[]api.Grid{}, c.want})
	}
}

func TestInOrder(t *testing.T) {
	const three = "array a[3]; s: a[0] = a[1] + 1; t: a[1] = a[2] * 2; u: a[2] = <5>;"
	for _, c := range []struct {
		text  string
		g     []api.Grid
		order []int
		want  []api.Grid
	}{
		{"array a[1];", nil, nil, grids(grid("a", 0))},
		{example, nil, []int{0, 1, 2}, grids(grid("a", 0, 1, 2, 3))},
		{example, nil, []int{2, 1, 0}, grids(grid("a", 0, 1, 1, 1))},
		{example, nil, []int{1, 2, 0}, grids(grid("a", 0, 1, 1, 2))},
		{three, nil, []int{0, 1, 2}, grids(grid("a", 1, 0, 5))},
		{three, nil, []int{2, 1, 0}, grids(grid("a", 11, 10, 5))},
		{three, grids(grid("a", 1, 2, 3)), []int{1, 2, 0}, grids(grid("a", 7, 6, 5))},
		{three, grids(grid("a", 1, 2, 3)), []int{0, 2, 1}, grids(grid("a", 3, 10, 5))},
		{"array a[2]; for i = 0 .. 1 { for j = 5 .. 6 { s: a[i] = a[i] * 10 + <j>; } }", nil, []int{3, 1, 2, 0}, grids(grid("a", 65, 65))},
	} {
		g, e := run.InOrder(program(t, c.text), c.g, c.order)
		same(t, fmt.Sprint(c.text, c.order), []any{g, e}, []any{c.want, api.OK})
	}
}

func TestErrorsOfOrders(t *testing.T) {
	for _, c := range []struct {
		order []int
		want  api.Errno
	}{
		{[]int{2, 0, 1}, api.OK},
		{nil, api.ErrForm},
		{[]int{0, 1}, api.ErrForm},
		{[]int{0, 1, 2, 3}, api.ErrForm},
		{[]int{9, 9}, api.ErrForm},
		{[]int{0, 1, 3}, api.ErrNone},
		{[]int{-1, 1, 2}, api.ErrNone},
		{[]int{0, 1, 1}, api.ErrTwice},
		{[]int{0, 0, 3}, api.ErrTwice},
		{[]int{0, 3, 0}, api.ErrNone},
	} {
		g, e := run.InOrder(program(t, example), nil, c.order)
		same(t, fmt.Sprint(c.order), []any{len(g) > 0, e}, []any{c.want == api.OK, c.want})
	}
	for _, n := range extremes() {
		_, e := run.InOrder(program(t, example), nil, []int{0, n, 0})
		same(t, fmt.Sprint(n), e, api.ErrNone)
	}
	_, e := run.InOrder(program(t, example), grids(grid("b")), nil)
	same(t, "grids before order", e, api.ErrNone)
}

func TestDiffer(t *testing.T) {
	twice := program(t, "array a[2]; s: a[1] = a[0] + a[0];")
	square := program(t, "array a[2]; s: a[1] = a[0] * a[0];")
	named := program(t, "array b[2]; s: b[1] = b[0] + b[0];")
	more := program(t, "array c[1]; array a[2]; s: a[1] = a[0] + a[0];")
	short := program(t, "array a[1];")
	on := func(l ...int) [][]api.Grid {
		var all [][]api.Grid
		for _, n := range l {
			all = append(all, grids(grid("a", n, 1)))
		}
		return all
	}
	for _, c := range []struct {
		what  string
		p, q  api.Program
		all   [][]api.Grid
		at    int
		found bool
	}{
		{"no lists", twice, square, nil, 0, false},
		{"itself", twice, twice, on(0, 1, 2, 3), 0, false},
		{"equal", twice, square, on(0, 2, 2, 0), 0, false},
		{"first", twice, square, on(1), 0, true},
		{"third", twice, square, on(0, 2, 3, 2, 5), 2, true},
		{"last", twice, square, on(0, 2, 0, 2, 5), 4, true},
		{"most", twice, square, on(append(make([]int, 19), 1)...), 19, true},
		{"empty lists", twice, square, make([][]api.Grid, 3), 0, false},
		{"names", twice, named, make([][]api.Grid, 1), 0, true},
		{"arrays", twice, more, make([][]api.Grid, 1), 0, true},
		{"sizes", twice, short, make([][]api.Grid, 1), 0, true},
		{"other order of arrays", program(t, "array a[1]; array b[1];"), program(t, "array b[1]; array a[1];"), [][]api.Grid{grids(grid("b", 4))}, 0, false},
	} {
		at, found, e := run.Differ(c.p, c.q, c.all)
		same(t, c.what, []any{at, found, e}, []any{c.at, c.found, api.OK})
	}
}

func TestErrorsOfDiffer(t *testing.T) {
	good := program(t, "array a[2]; s: a[0] = 1;")
	other := program(t, "array a[2]; s: a[0] = 2;")
	more := program(t, "array a[2]; array b[1]; s: a[0] = 2;")
	out := program(t, outside)
	full := program(t, "array a[2]; for i = 1 .. 200001 { }")
	none := program(t, "array b[1];")
	unnamed := api.Program{Arrays: []api.Array{{Sizes: []int{1}}}}
	one := make([][]api.Grid, 1)
	a, b, bad, name := grids(grid("a", 0, 0)), grids(grid("b", 0)), grids(grid("a", 0, -1)), grids(grid(""))
	for _, c := range []struct {
		what string
		p, q api.Program
		all  [][]api.Grid
		want api.Errno
	}{
		{"first program", wrong(), unnamed, make([][]api.Grid, 21), api.ErrKind},
		{"second program", good, unnamed, make([][]api.Grid, 21), api.ErrName},
		{"second program before runs", out, wrong(), one, api.ErrKind},
		{"too many", out, good, make([][]api.Grid, 21), api.ErrLarge},
		{"most", good, good, make([][]api.Grid, 20), api.OK},
		{"no list, no run", out, full, nil, api.OK},
		{"first run", out, full, one, api.ErrRule},
		{"second run", full, out, one, api.ErrFull},
		{"second run alone", good, out, one, api.ErrRule},
		{"first run before grids", out, good, [][]api.Grid{name}, api.ErrRule},
		{"grids of the first before the second run", good, out, [][]api.Grid{bad}, api.ErrArg},
		{"second run before the second list", good, out, [][]api.Grid{a, bad}, api.ErrRule},
		{"grids of the second", more, good, [][]api.Grid{a, b}, api.ErrNone},
		{"grids of the first", good, more, [][]api.Grid{a, b}, api.ErrNone},
		{"list by list", more, good, [][]api.Grid{b, bad}, api.ErrNone},
		{"list by list", good, good, [][]api.Grid{bad, name}, api.ErrArg},
		{"behind a difference", good, other, [][]api.Grid{a, bad}, api.ErrArg},
		{"far behind a difference", good, other, [][]api.Grid{a, a, a, name}, api.ErrName},
		{"of other arrays", good, none, [][]api.Grid{nil, a}, api.ErrNone},
	} {
		at, found, e := run.Differ(c.p, c.q, c.all)
		same(t, c.what, e, c.want)
		if e != api.OK {
			same(t, c.what, []any{at, found}, []any{0, false})
		}
	}
}

func TestGridsText(t *testing.T) {
	for _, c := range []struct {
		g    []api.Grid
		want string
	}{
		{nil, ""},
		{grids(grid("a", 0)), "a 0\n"},
		{grids(grid("a", 0, 7, 10), grid("b_1", last)), "a 0 7 10\nb_1 1000002\n"},
		{grids(grid("x"), grid("y"))[:0], ""},
		{grids(grid(strings.Repeat("z", 40), 1)), strings.Repeat("z", 40) + " 1\n"},
	} {
		s, e := run.GridsText(c.g)
		same(t, c.want, []any{s, e}, []any{c.want, api.OK})
		g, line, e := run.ReadGrids(s)
		same(t, c.want, []any{g, line, e}, []any{c.g, 0, api.OK})
	}
}

func TestErrorsOfGridsText(t *testing.T) {
	all := make([]int, api.MaxCells)
	for _, c := range []struct {
		what string
		g    []api.Grid
		want api.Errno
	}{
		{"not rising", grids(grid("b", 1), grid("a", 1)), api.ErrOrder},
		{"twice", grids(grid("a", 1), grid("a", 1)), api.ErrOrder},
		{"no values", grids(grid("a", 1), grid("b")), api.ErrNone},
		{"most", grids(grid("a", all...)), api.OK},
		{"too many", grids(grid("a", append(all[:len(all):len(all)], 1)...)), api.ErrLarge},
		{"too many together", grids(grid("a", all...), grid("b", 1)), api.ErrLarge},
		{"below 0", grids(grid("a", -1)), api.ErrArg},
		{"too great", grids(grid("a", 0, api.Prime)), api.ErrArg},
		// For each grid all errors in order, and then the next one.
		{"name before order", grids(grid("b", 1), grid("")), api.ErrName},
		{"order before values", grids(grid("b", 1), grid("a")), api.ErrOrder},
		{"many before value", grids(grid("a", append([]int{-1}, all...)...)), api.ErrLarge},
		{"many together before value", grids(grid("a", all...), grid("b", -1)), api.ErrLarge},
		{"value before the next name", grids(grid("a", -1), grid("")), api.ErrArg},
		{"no values before the next order", grids(grid("b"), grid("a", 1)), api.ErrNone},
		{"name before many", grids(grid("a", all...), grid("B", 1)), api.ErrName},
	} {
		s, e := run.GridsText(c.g)
		same(t, c.what, e, c.want)
		same(t, c.what, s != "", e == api.OK)
	}
	for _, n := range extremes() {
		_, e := run.GridsText(grids(grid("a", n)))
		same(t, fmt.Sprint(n), e, api.ErrArg)
	}
	for _, s := range noNames() {
		_, e := run.GridsText(grids(grid(s, 1)))
		same(t, s, e, api.ErrName)
	}
}

func TestLongTexts(t *testing.T) {
	// `ab` and 6249 values of seven digits with a blank each, and one more of four digits: 50,000 bytes with the line feed.
	var l []int
	for range 6249 {
		l = append(l, 1_000_000)
	}
	most := append(l, 1234)
	s, e := run.GridsText(grids(grid("ab", most...)))
	same(t, "most", []any{len(s), e}, []any{api.MaxText, api.OK})
	g, line, e := run.ReadGrids(s)
	same(t, "most", []any{g, line, e}, []any{grids(grid("ab", most...)), 0, api.OK})
	s, e = run.GridsText(grids(grid("abc", most...)))
	same(t, "too long", []any{s, e}, []any{"", api.ErrLarge})
	g, line, e = run.ReadGrids(strings.Repeat("\n", api.MaxText+1))
	same(t, "too long", []any{g, line, e}, []any{[]api.Grid{}, 0, api.ErrLarge})
	g, line, e = run.ReadGrids("a" + strings.Repeat(" 0", api.MaxCells) + "\n")
	same(t, "cells", []any{len(g[0].Values), line, e}, []any{api.MaxCells, 0, api.OK})
	g, line, e = run.ReadGrids("a" + strings.Repeat(" 0", api.MaxCells) + "\nb 0\n")
	same(t, "too many cells", []any{g, line, e}, []any{[]api.Grid{}, 0, api.ErrLarge})
}

func TestReadGrids(t *testing.T) {
	for _, c := range []struct {
		text string
		line int
		want api.Errno
	}{
		{"", 0, api.OK},
		{"a 0\n", 0, api.OK},
		{"a 0 10 999\nb 1000002\nc_1 5\n", 0, api.OK},
		// Lines that have not the form.
		{"\n", 0, api.ErrSyntax},
		{" \n", 0, api.ErrSyntax},
		{"a\n", 0, api.ErrSyntax},
		{"a \n", 0, api.ErrSyntax},
		{" 1\n", 0, api.ErrSyntax},
		{" a 1\n", 0, api.ErrSyntax},
		{"a  1\n", 0, api.ErrSyntax},
		{"a 1 \n", 0, api.ErrSyntax},
		{"a 1  2\n", 0, api.ErrSyntax},
		{"a 1\t2\n", 0, api.ErrSyntax},
		{"a 1\r\n", 0, api.ErrSyntax},
		{"a b\n", 0, api.ErrSyntax},
		{"a 01\n", 0, api.ErrSyntax},
		{"a 00\n", 0, api.ErrSyntax},
		{"a -0\n", 0, api.ErrSyntax},
		{"a -01\n", 0, api.ErrSyntax},
		{"a -\n", 0, api.ErrSyntax},
		{"a --1\n", 0, api.ErrSyntax},
		{"a +1\n", 0, api.ErrSyntax},
		{"a 1_0\n", 0, api.ErrSyntax},
		{"a 0x1\n", 0, api.ErrSyntax},
		{"a 1.0\n", 0, api.ErrSyntax},
		{"a 1e3\n", 0, api.ErrSyntax},
		{"a \xd9\xa1\n", 0, api.ErrSyntax},
		{"a 1234567890\n", 0, api.ErrSyntax},
		{"a -1234567890\n", 0, api.ErrSyntax},
		{"a 99999999999999999999999999\n", 0, api.ErrSyntax},
		// The first one of them counts, and the end of each one.
		{"a 1", 0, api.ErrSyntax},
		{"a", 0, api.ErrSyntax},
		{"a 1\nb 2", 1, api.ErrSyntax},
		{"a 1\n\n", 1, api.ErrSyntax},
		{"\na 1\n", 0, api.ErrSyntax},
		{"a 1\nb 2\nc 3 \nd\n", 2, api.ErrSyntax},
		{"a 1\nb 2\nc 3\n ", 3, api.ErrSyntax},
		{"a 1\nb 01\nc 2", 1, api.ErrSyntax},
		// The form goes before the other errors.
		{"A 1\nb 2\nc\n", 2, api.ErrSyntax},
		{"b 1\na -5\n", 0, api.ErrOrder},
		{"A 1\n", 0, api.ErrName},
		{"1 1\n", 0, api.ErrName},
		{"a\t 1\n", 0, api.ErrName},
		{"for 1\n", 0, api.ErrName},
		{"\xff 1\n", 0, api.ErrName},
		{strings.Repeat("a", 41) + " 1\n", 0, api.ErrName},
		{"a 1\na 1\n", 0, api.ErrOrder},
		{"a -1\n", 0, api.ErrArg},
		{"a -123456789\n", 0, api.ErrArg},
		{"a 123456789\n", 0, api.ErrArg},
		{"a 1000003\n", 0, api.ErrArg},
	} {
		g, line, e := run.ReadGrids(c.text)
		same(t, fmt.Sprintf("%q", c.text), []any{line, e}, []any{c.line, c.want})
		if e != api.OK {
			same(t, fmt.Sprintf("%q", c.text), len(g), 0)
			continue
		}
		s, e := run.GridsText(g)
		same(t, fmt.Sprintf("%q", c.text), []any{s, e}, []any{c.text, api.OK})
	}
}
