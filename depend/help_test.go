package depend_test

import (
	"fmt"
	"strings"
	"testing"

	"warpbeam/api"
	"warpbeam/depend"
	"warpbeam/nest"
)

// same compares values as they are printed, as an empty list and a nil one are the same (Z5).
func same(t *testing.T, what string, got, want any) {
	t.Helper()
	if g, w := fmt.Sprintf("%+v", got), fmt.Sprintf("%+v", want); g != w {
		t.Errorf("%s: got %s, want %s", short(what), short(g), short(w))
	}
}

func short(s string) string {
	if len(s) > 600 {
		return s[:600] + " .."
	}
	return s
}

// program reads a text that has to be right.
func program(t *testing.T, text string) api.Program {
	t.Helper()
	p, at, e := nest.Read(text)
	if e != api.OK {
		t.Fatalf("Read(%q): %d, %v", short(text), at, e)
	}
	return p
}

// form reads a form that has to be right.
func form(t *testing.T, text string) api.Form {
	t.Helper()
	f, at, e := nest.ReadForm(text)
	if e != api.OK {
		t.Fatalf("ReadForm(%q): %d, %v", short(text), at, e)
	}
	return f
}

// names that are none, each for a reason of its own.
func noNames() []string {
	return []string{"", "1a", "_a", "A", "a-b", "a b", "é", "a\n", "a\x00", strings.Repeat("a", api.MaxName+1), "array", "for", "if", "max", "min"}
}

// extremes are the ints that are farthest off.
func extremes() []int {
	const most = int(^uint(0) >> 1)
	return []int{most, most - 1, -most, -most - 1}
}

// example is that of the chapter.
const example = "array a[4]; for i = 1 .. 3 { s: a[i] = a[i - 1] + 1; }"

// kinds are the words for kinds of dependences.
func kinds() []string { return []string{"none", "flow", "anti", "output"} }

// leads writes dependences: `flow 0 1 a3, anti 0 2 b1`.
func leads(l []api.Dependence) string {
	var parts []string
	for _, d := range l {
		parts = append(parts, fmt.Sprintf("%s %d %d %s%d", kinds()[d.Kind], d.From, d.To, d.Array, d.Cell))
	}
	return strings.Join(parts, ", ")
}

// summed writes relations: `flow s s a level 1: 2 [1] [1]`.
func summed(l []api.Relation) string {
	var parts []string
	for _, r := range l {
		parts = append(parts, fmt.Sprintf("%s %s %s %s level %d: %d %v %v", kinds()[r.Kind], r.From, r.To, r.Array, r.Level, r.Many, r.Least, r.Most))
	}
	return strings.Join(parts, ", ")
}

// arrows writes arrows: `s t, t s`.
func arrows(l []api.Arrow) string {
	var parts []string
	for _, a := range l {
		parts = append(parts, a.From+" "+a.To)
	}
	return strings.Join(parts, ", ")
}

// grouped writes groups: `s t, u`.
func grouped(l [][]string) string {
	var parts []string
	for _, g := range l {
		parts = append(parts, strings.Join(g, " "))
	}
	return strings.Join(parts, ", ")
}

// failure is a program with the error that its run has.
type failure struct {
	program api.Program
	want    api.Errno
}

// failures are programs with all errors of Accesses.
func failures(t *testing.T) []failure {
	t.Helper()
	return []failure{
		{api.Program{Steps: []api.Step{{Kind: -1}}}, api.ErrKind},
		{api.Program{Arrays: []api.Array{{Key: "A"}}}, api.ErrName},
		{api.Program{Arrays: make([]api.Array, api.MaxArrays+1)}, api.ErrLarge},
		{program(t, "array a[4]; for i = 1000000 .. 1000000 { for j = i + 1 .. i + 1 { s: a[0] = 1; } }"), api.ErrArg},
		{program(t, "array a[4]; for i = 0 .. 50000 { s: a[0] = 1; }"), api.ErrFull},
		{program(t, "array a[4]; for i = 0 .. 200000 { }"), api.ErrFull},
		{program(t, "array a[4]; s: a[4] = 1;"), api.ErrRule},
		{program(t, "array a[4]; s: a[0] = a[-1];"), api.ErrRule},
		{program(t, "array a[4]; for i = 0 .. 49999 { s: a[0] = a[0] + a[1] + a[2] + a[3]; }"), api.ErrLarge},
	}
}

// results are those of all functions with a run.
func results(p api.Program, n int, order []int) []string {
	var l []string
	add := func(name string, values ...any) { l = append(l, name+fmt.Sprintf(" %+v", values)) }
	direct, e := depend.Direct(p)
	add("Direct", direct, e)
	relations, e := depend.Relations(p)
	add("Relations", relations, e)
	carried, e := depend.Carried(p, n)
	add("Carried", carried, e)
	free, e := depend.Free(p)
	add("Free", free, e)
	graph, e := depend.Graph(p)
	add("Graph", graph, e)
	groups, e := depend.Groups(p)
	add("Groups", groups, e)
	keeps, e := depend.Keeps(p, order)
	add("Keeps", keeps, e)
	waves, many, e := depend.Waves(p)
	add("Waves", waves, many, e)
	return l
}

// P4.1: functions with a program have the errors of its accesses first, and no values with them.
func TestErrorsOfPrograms(t *testing.T) {
	for _, f := range failures(t) {
		// Their own errors come later: there is no such loop, and no such order.
		same(t, "results", results(f.program, -1, []int{-1, 7}), []string{
			fmt.Sprintf("Direct %+v", []any{[]int{}, f.want}),
			fmt.Sprintf("Relations %+v", []any{[]int{}, f.want}),
			fmt.Sprintf("Carried %+v", []any{[]int{}, f.want}),
			fmt.Sprintf("Free %+v", []any{[]int{}, f.want}),
			fmt.Sprintf("Graph %+v", []any{[]int{}, f.want}),
			fmt.Sprintf("Groups %+v", []any{[]int{}, f.want}),
			fmt.Sprintf("Keeps %+v", []any{false, f.want}),
			fmt.Sprintf("Waves %+v", []any{[]int{}, 0, f.want}),
		})
	}
}

// A program without steps, and one without instances, have no dependences.
func TestNothing(t *testing.T) {
	same(t, "empty", results(api.Program{}, 0, nil), []string{
		"Direct [[] 0]", "Relations [[] 0]", "Carried [[] 8]", "Free [[] 0]", "Graph [[] 0]", "Groups [[] 0]", "Keeps [true 0]", "Waves [[] 0 0]",
	})
	p := program(t, "array a[4]; for i = 1 .. 0 { t: a[i] = a[0]; s: a[0] = a[i]; }")
	same(t, "idle", results(p, 0, nil), []string{
		"Direct [[] 0]", "Relations [[] 0]", "Carried [[] 0]", "Free [[0] 0]", "Graph [[] 0]", "Groups [[[t] [s]] 0]", "Keeps [true 0]", "Waves [[] 0 0]",
	})
}
