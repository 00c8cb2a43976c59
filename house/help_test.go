package house_test

import (
	"fmt"
	"strings"
	"testing"

	"warpbeam/api"
	"warpbeam/house"
	"warpbeam/nest"
)

// same compares values as they are printed, as an empty list and a nil one are the same (Z5).
func same(t *testing.T, what string, got, want any) {
	t.Helper()
	if g, w := fmt.Sprintf("%+v", got), fmt.Sprintf("%+v", want); g != w {
		t.Errorf("%s: got %s, want %s", short(what), short(g), short(w))
	}
}

func short(s string) string {
	if len(s) > 1200 {
		return s[:1200] + " .."
	}
	return s
}

// put, move and drop make notes.
func put(desk string, no, at int, name, text string) api.Note {
	return api.Note{Desk: desk, No: no, At: at, Kind: api.NotePut, Name: name, Text: text}
}

func move(desk string, no, at int, name, of string, kind, loop, arg int) api.Note {
	return api.Note{Desk: desk, No: no, At: at, Kind: api.NoteMove, Name: name, Of: of, Move: api.Move{Kind: kind, Loop: loop, Arg: arg}}
}

func drop(desk string, no, at int, name string) api.Note {
	return api.Note{Desk: desk, No: no, At: at, Kind: api.NoteDrop, Name: name}
}

func notes(l ...api.Note) []api.Note { return l }

// chain is a program whose loop cannot be reversed, as a round needs the one before; row is one whose loop can be.
const (
	chain = "array a[9];\nfor i = 1 .. 3 {\n  s: a[i] = a[i - 1] + 1;\n}\n"
	row   = "array a[9];\nfor i = 0 .. 3 {\n  s: a[i] = <2*i>;\n}\n"
)

// textOf is a program on one line.
func textOf(p api.Program) string {
	text, e := nest.Text(p)
	if e != api.OK {
		return fmt.Sprint("error ", int(e))
	}
	return strings.Join(strings.Fields(text), " ")
}

// got is what Get returns.
func got(l []api.Note, name string, at int) string {
	p, is, e := house.Get(l, name, at)
	if e != api.OK || !is {
		return fmt.Sprintf("%+v", []any{p, is, int(e)})
	}
	return textOf(p)
}

// none is what Get returns without a program.
func none(e api.Errno) string { return fmt.Sprintf("%+v", []any{api.Program{}, false, int(e)}) }

// named is what Names returns.
func named(l []api.Note, at int) string {
	names, e := house.Names(l, at)
	return fmt.Sprint(names, int(e))
}

// gone is what Way returns.
func gone(l []api.Note, name string, at int) string {
	way, e := house.Way(l, name, at)
	return fmt.Sprint(way, int(e))
}

// results are those of all functions with notes, by name.
func results(l []api.Note) map[string]string {
	all := map[string]string{"Names": named(l, 9), "Get": got(l, "p", 9), "Way": gone(l, "p", 9)}
	add := func(name string, values ...any) { all[name] = fmt.Sprintf("%+v", values) }
	add("CheckNotes", int(house.CheckNotes(l)))
	text, e := house.Text(l)
	add("Text", text, int(e))
	m, e := house.Merge(l, nil)
	add("Merge", m, int(e))
	m, e = house.Merge(nil, l)
	add("Merge behind", m, int(e))
	c := house.New()
	e = c.Take(l)
	add("Take", c.Notes(), int(e))
	return all
}

// failed is what a function with notes returns with an error: zero values and the error.
func failed(name string, e api.Errno) string {
	switch name {
	case "CheckNotes":
		return fmt.Sprint([]any{int(e)})
	case "Get":
		return none(e)
	case "Text":
		return fmt.Sprint([]any{"", int(e)})
	case "Names", "Way":
		return fmt.Sprint([]int{}, int(e))
	}
	return fmt.Sprint([]any{[]int{}, int(e)})
}

// fails checks that all functions with notes have an error.
func fails(t *testing.T, what string, l []api.Note, e api.Errno) {
	t.Helper()
	for name, got := range results(l) {
		same(t, name+" of "+what, got, failed(name, e))
	}
}

// fine checks that notes have no error.
func fine(t *testing.T, what string, l ...api.Note) {
	t.Helper()
	same(t, what, house.CheckNotes(l), api.OK)
}

// do executes lines, each of which has an answer that has to be.
func do(t *testing.T, c *house.Console, lines ...string) {
	t.Helper()
	for i := 0; i+1 < len(lines); i += 2 {
		same(t, fmt.Sprintf("%q", lines[i]), fmt.Sprintf("%q", c.Do(lines[i])), fmt.Sprintf("%q", lines[i+1]))
	}
}

// names that are none, each for a reason of its own.
func noNames() []string {
	return []string{"1a", "_a", "A", "a-b", "aB", "é", "a\t", "a\x00", strings.Repeat("a", api.MaxName+1), "array", "for", "if", "max", "min"}
}

// noKeys are strings that are no keys of desks.
func noKeys() []string {
	return []string{"1a", "_a", "-a", "A", "aB", "a.", "a/", "a:", "a`", "a{", "é", "aé", "a\t", "a\x00", "\xff", strings.Repeat("a", api.MaxName+1)}
}

// keys that are right.
func keys() []string {
	return []string{"a", "z", "a-", "a_", "a0", "z9-_", "for", "array", strings.Repeat("k", api.MaxName)}
}

// outside are ints that are not from low to high.
func outside(low, high int) []int {
	const most = int(^uint(0) >> 1)
	return []int{low - 1, high + 1, most, most - 1, -most, -most - 1}
}
