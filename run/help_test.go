package run_test

import (
	"fmt"
	"strings"
	"testing"

	"warpbeam/api"
	"warpbeam/nest"
)

// same compares values as they are printed, as an empty list and a nil one are the same (Z5).
func same(t *testing.T, what string, got, want any) {
	t.Helper()
	if g, w := fmt.Sprintf("%+v", got), fmt.Sprintf("%+v", want); g != w {
		t.Errorf("%s: got %s, want %s", short(what), short(g), short(w))
	}
}

func short(s string) string {
	if len(s) > 600 {
		return s[:600] + " .."
	}
	return s
}

// program reads a text that has to be right.
func program(t *testing.T, text string) api.Program {
	t.Helper()
	p, at, e := nest.Read(text)
	if e != api.OK {
		t.Fatalf("Read(%q): %d, %v", short(text), at, e)
	}
	return p
}

func written(t *testing.T, p api.Program) string {
	t.Helper()
	s, e := nest.Text(p)
	if e != api.OK {
		t.Fatalf("Text(%+v): %v", p, e)
	}
	return s
}

// grid makes the grid of an array.
func grid(key string, values ...int) api.Grid { return api.Grid{Key: key, Values: values} }

func grids(l ...api.Grid) []api.Grid { return l }

func spot(array string, cell int) api.Spot { return api.Spot{Array: array, Cell: cell} }

// names that are none, each for a reason of its own.
func noNames() []string {
	return []string{"", "1a", "_a", "A", "a-b", "a b", "é", "a\n", "a\x00", strings.Repeat("a", api.MaxName+1), "array", "for", "if", "max", "min"}
}

// extremes are the ints that are farthest off.
func extremes() []int {
	const most = int(^uint(0) >> 1)
	return []int{most, most - 1, -most, -most - 1}
}

// wrong is a program that the checks refuse.
func wrong() api.Program { return api.Program{Steps: []api.Step{{Kind: -1}}} }

// outside is a program with an index outside of its array.
const outside = "array a[4]; s: a[4] = 1;"

// example is that of the chapter.
const example = "array a[4]; for i = 1 .. 3 { s: a[i] = a[i - 1] + 1; }"
