package cache_test

import (
	"fmt"
	"slices"
	"strconv"
	"strings"
	"testing"

	"warpbeam/api"
	"warpbeam/cache"
	"warpbeam/nest"
)

// same compares values as they are printed, as an empty list and a nil one are the same (Z5).
func same(t *testing.T, what string, got, want any) {
	t.Helper()
	if g, w := fmt.Sprintf("%+v", got), fmt.Sprintf("%+v", want); g != w {
		t.Errorf("%s: got %s, want %s", short(what), short(g), short(w))
	}
}

func short(s string) string {
	if len(s) > 900 {
		return s[:900] + " .."
	}
	return s
}

// program reads a text that has to be right.
func program(t *testing.T, text string) api.Program {
	t.Helper()
	p, at, e := nest.Read(text)
	if e != api.OK {
		t.Fatalf("Read(%q): %d, %v", short(text), at, e)
	}
	return p
}

// touching makes a program with one array a. Its statements stand with blanks between: `3` sets the cell 3, and `3=0+4` reads the cells 0 and 4 before.
func touching(t *testing.T, cells int, text string) api.Program {
	t.Helper()
	s := "array a[" + strconv.Itoa(cells) + "]; "
	for i, word := range strings.Fields(text) {
		cell, reads, found := strings.Cut(word, "=")
		value := "1"
		if found {
			value = "a[" + strings.ReplaceAll(reads, "+", "] + a[") + "]"
		}
		s += "s" + strconv.Itoa(i) + ": a[" + cell + "] = " + value + "; "
	}
	return program(t, s)
}

// places makes places of a text like `a 0, b 8 turned`.
func places(t *testing.T, text string) []api.Place {
	t.Helper()
	var l []api.Place
	for _, one := range strings.Split(text, ", ") {
		words := strings.Fields(one)
		if len(words) == 0 {
			continue
		}
		start, e := strconv.Atoi(words[1])
		if e != nil {
			t.Fatal(e)
		}
		l = append(l, api.Place{Key: words[0], Start: start, Turned: len(words) == 3})
	}
	return l
}

// atZero is the place of an array a without others.
func atZero() []api.Place { return []api.Place{{Key: "a"}} }

// packs are the places of Pack, which has to have no error.
func packs(t *testing.T, p api.Program, line int) []api.Place {
	t.Helper()
	l, e := cache.Pack(p, line)
	if e != api.OK {
		t.Fatal("Pack", e)
	}
	return l
}

// names that are none, each for a reason of its own.
func noNames() []string {
	return []string{"", "1a", "_a", "A", "a-b", "a b", "é", "a\n", "a\x00", strings.Repeat("a", api.MaxName+1), "array", "for", "if", "max", "min"}
}

// outside are ints that are not from low to high.
func outside(low, high int) []int {
	const most = int(^uint(0) >> 1)
	return []int{low - 1, high + 1, most, most - 1, -most, -most - 1}
}

// failure is a program with the error that its run has.
type failure struct {
	program api.Program
	want    api.Errno
}

// failures are programs with all errors of Accesses.
func failures(t *testing.T) []failure {
	t.Helper()
	return []failure{
		{api.Program{Steps: []api.Step{{Kind: -1}}}, api.ErrKind},
		{api.Program{Arrays: []api.Array{{Key: "A"}}}, api.ErrName},
		{api.Program{Arrays: make([]api.Array, api.MaxArrays+1)}, api.ErrLarge},
		{program(t, "array a[4]; for i = 1000000 .. 1000000 { for j = i + 1 .. i + 1 { s: a[0] = 1; } }"), api.ErrArg},
		{program(t, "array a[4]; for i = 0 .. 50000 { s: a[0] = 1; }"), api.ErrFull},
		{program(t, "array a[4]; for i = 0 .. 200000 { }"), api.ErrFull},
		{program(t, "array a[4]; s: a[4] = 1;"), api.ErrRule},
		{program(t, "array a[4]; s: a[0] = a[-1];"), api.ErrRule},
		{program(t, "array a[4]; for i = 0 .. 49999 { s: a[0] = a[0] + a[1] + a[2] + a[3]; }"), api.ErrLarge},
	}
}

// input is all arguments of the functions, but for the program.
type input struct {
	places            []api.Place
	cache             api.Cache
	line, most, lines int
	loop              int
	sizes             []int
}

// results are those of all functions with a program, by name.
func results(p api.Program, x input) map[string]string {
	all := map[string]string{"CheckPlaces": fmt.Sprint(int(cache.CheckPlaces(p, x.places)))}
	add := func(name string, values ...any) { all[name] = fmt.Sprintf("%+v", values) }
	l, e := cache.Pack(p, x.line)
	add("Pack", l, int(e))
	numbers, e := cache.Addresses(p, x.places)
	add("Addresses", numbers, int(e))
	tally, e := cache.Simulate(p, x.places, x.cache)
	add("Simulate", tally, int(e))
	numbers, e = cache.Misses(p, x.places, x.cache)
	add("Misses", numbers, int(e))
	numbers, e = cache.Distances(p, x.places, x.line)
	add("Distances", numbers, int(e))
	numbers, e = cache.Curve(p, x.places, x.line, x.most)
	add("Curve", numbers, int(e))
	n, e := cache.Optimal(p, x.places, x.line, x.lines)
	add("Optimal", n, int(e))
	size, n, e := cache.BestTile(p, x.loop, x.sizes, x.cache)
	add("BestTile", size, n, int(e))
	moves, n, e := cache.BestOrder(p, x.cache)
	add("BestOrder", moves, n, int(e))
	return all
}

// withPlaces are the functions that take places.
const withPlaces = "CheckPlaces Addresses Simulate Misses Distances Curve Optimal"

// failed is what a function returns with an error: zero values and the error.
func failed(name string, e api.Errno) string {
	n := int(e)
	switch name {
	case "CheckPlaces":
		return fmt.Sprint(n)
	case "Simulate":
		return fmt.Sprintf("%+v", []any{api.Tally{}, n})
	case "Optimal":
		return fmt.Sprint([]int{0, n})
	case "BestTile":
		return fmt.Sprint([]int{0, 0, n})
	case "BestOrder":
		return fmt.Sprint([]any{[]api.Move{}, 0, n})
	}
	return fmt.Sprint([]any{[]int{}, n})
}

// fails checks that some functions have an error, and no others.
func fails(t *testing.T, what string, p api.Program, x input, names string, e api.Errno) {
	t.Helper()
	these := strings.Fields(names)
	for name, got := range results(p, x) {
		if slices.Contains(these, name) {
			same(t, name+" of "+what, got, failed(name, e))
		} else if got == failed(name, e) {
			t.Errorf("%s of %s: error %d, too", name, what, e)
		}
	}
}
