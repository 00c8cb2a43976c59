package shape_test

import (
	"fmt"
	"strings"
	"testing"

	"warpbeam/api"
	"warpbeam/nest"
	"warpbeam/shape"
)

// same compares values as they are printed, as an empty list and a nil one are the same (Z5).
func same(t *testing.T, what string, got, want any) {
	t.Helper()
	if g, w := fmt.Sprintf("%+v", got), fmt.Sprintf("%+v", want); g != w {
		t.Errorf("%s: got %s, want %s", short(what), short(g), short(w))
	}
}

func short(s string) string {
	if len(s) > 900 {
		return s[:900] + " .."
	}
	return s
}

// program reads a text that has to be right.
func program(t *testing.T, text string) api.Program {
	t.Helper()
	p, at, e := nest.Read(text)
	if e != api.OK {
		t.Fatalf("Read(%q): %d, %v", short(text), at, e)
	}
	return p
}

// steps writes the steps of a program, with single blanks between all words.
func steps(p api.Program) string {
	text, e := nest.Text(p)
	if e != api.OK {
		return fmt.Sprint(p, e)
	}
	words := strings.Fields(text)
	for len(words) > 0 && words[0] == "array" {
		for !strings.HasSuffix(words[0], ";") {
			words = words[1:]
		}
		words = words[1:]
	}
	return strings.Join(words, " ")
}

// made is a result of a transformation: the steps, or the error.
func made(p api.Program, e api.Errno) string {
	if e != api.OK {
		if len(p.Arrays)+len(p.Steps) > 0 {
			return fmt.Sprint("a program with error ", int(e))
		}
		return errors(e)
	}
	return steps(p)
}

func errors(e api.Errno) string { return fmt.Sprint("error ", int(e)) }

// names that are none, each for a reason of its own.
func noNames() []string {
	return []string{"", "1a", "_a", "A", "a-b", "a b", "é", "a\n", "a\x00", strings.Repeat("a", api.MaxName+1), "array", "for", "if", "max", "min"}
}

// extremes are the ints that are farthest off.
func extremes() []int {
	const most = int(^uint(0) >> 1)
	return []int{most, most - 1, -most, -most - 1}
}

// outside are ints that are not from low to high, and the nearest ones that are.
func outside(low, high int) ([]int, []int) {
	return append(extremes(), low-1, high+1), []int{low, high}
}

// example is that of the chapter.
const example = "array a[3, 4]; for i = 1 .. 2 { for j = 0 .. 2 { s: a[i, j] = a[i - 1, j + 1]; } }"

// failure is a program with the error that its run has.
type failure struct {
	program api.Program
	want    api.Errno
}

// failures are programs with all errors of Accesses.
func failures(t *testing.T) []failure {
	t.Helper()
	return []failure{
		{api.Program{Steps: []api.Step{{Kind: -1}}}, api.ErrKind},
		{api.Program{Arrays: []api.Array{{Key: "A"}}}, api.ErrName},
		{api.Program{Arrays: make([]api.Array, api.MaxArrays+1)}, api.ErrLarge},
		{program(t, "array a[4]; for i = 1000000 .. 1000000 { for j = i + 1 .. i + 1 { s: a[0] = 1; } }"), api.ErrArg},
		{program(t, "array a[4]; for i = 0 .. 50000 { s: a[0] = 1; }"), api.ErrFull},
		{program(t, "array a[4]; for i = 0 .. 200000 { }"), api.ErrFull},
		{program(t, "array a[4]; s: a[4] = 1;"), api.ErrRule},
		{program(t, "array a[4]; s: a[0] = a[-1];"), api.ErrRule},
		{program(t, "array a[4]; for i = 0 .. 49999 { s: a[0] = a[0] + a[1] + a[2] + a[3]; }"), api.ErrLarge},
	}
}

// numbers are all arguments of the functions but programs.
type numbers struct {
	n, by, size  int
	outer, inner string
	move         api.Move
}

// results are those of all functions that ask for a run.
func results(p api.Program, x numbers) []string {
	var l []string
	add := func(name string, q api.Program, e api.Errno) { l = append(l, name+": "+made(q, e)) }
	q, e := shape.Exchange(p, x.n)
	add("Exchange", q, e)
	q, e = shape.Reverse(p, x.n)
	add("Reverse", q, e)
	q, e = shape.Shift(p, x.n, x.by)
	add("Shift", q, e)
	q, e = shape.Skew(p, x.n, x.by)
	add("Skew", q, e)
	q, e = shape.Strip(p, x.n, x.size, x.outer)
	add("Strip", q, e)
	q, e = shape.Tile(p, x.n, x.size, x.outer, x.inner)
	add("Tile", q, e)
	q, e = shape.Fuse(p, x.n)
	add("Fuse", q, e)
	q, e = shape.Split(p, x.n, x.by)
	add("Split", q, e)
	q, e = shape.Cut(p, x.n, x.by)
	add("Cut", q, e)
	q, e = shape.Do(p, x.move)
	add("Do", q, e)
	moves, e := shape.Moves(p)
	return append(l, fmt.Sprintf("Moves: %v error %d", moves, e))
}

// allFail is results that are all the same error.
func allFail(e api.Errno) []string {
	var l []string
	for _, name := range strings.Fields("Exchange Reverse Shift Skew Strip Tile Fuse Split Cut Do") {
		l = append(l, name+": "+errors(e))
	}
	return append(l, fmt.Sprintf("Moves: [] error %d", e))
}

// do is a call of a transformation.
type do func(p api.Program) (api.Program, api.Errno)

func exchange(n int) do {
	return func(p api.Program) (api.Program, api.Errno) { return shape.Exchange(p, n) }
}

func reverse(n int) do {
	return func(p api.Program) (api.Program, api.Errno) { return shape.Reverse(p, n) }
}

func shift(n, by int) do {
	return func(p api.Program) (api.Program, api.Errno) { return shape.Shift(p, n, by) }
}

func skew(n, by int) do {
	return func(p api.Program) (api.Program, api.Errno) { return shape.Skew(p, n, by) }
}

func strip(n, size int, name string) do {
	return func(p api.Program) (api.Program, api.Errno) { return shape.Strip(p, n, size, name) }
}

func tile(n, size int, outer, inner string) do {
	return func(p api.Program) (api.Program, api.Errno) { return shape.Tile(p, n, size, outer, inner) }
}

func fuse(n int) do {
	return func(p api.Program) (api.Program, api.Errno) { return shape.Fuse(p, n) }
}

func split(n, at int) do {
	return func(p api.Program) (api.Program, api.Errno) { return shape.Split(p, n, at) }
}

func cut(n, at int) do {
	return func(p api.Program) (api.Program, api.Errno) { return shape.Cut(p, n, at) }
}

// change is a transformation of a program (its text), and the steps or the error that it makes.
type change struct {
	what, text string
	do         do
	want       string
}

func try(t *testing.T, l []change) {
	t.Helper()
	for _, c := range l {
		same(t, c.what+" of "+c.text, made(c.do(program(t, c.text))), c.want)
	}
}

// eight is arrays that are large enough for what stands in these tests.
const eight = "array a[9]; array b[9]; array c[9, 9]; array d[9, 9]; "
