package affine_test

import (
	"fmt"
	"slices"
	"strings"
	"sync"
	"testing"

	"warpbeam/affine"
	"warpbeam/api"
)

// nested is a program with a statement in loops and conditions.
const nested = "array a[9, 9]; for z = max(0, (1)/2) .. 5 { if z - 1 >= 0, 7 >= 0 { for b = z .. min(8, (3*z)/2) { s: a[z, b] = a[b, z] + 1; } } }"

// arguments are those of all functions.
type arguments struct {
	program    api.Program
	set, other api.Set
	point      []int
	forms      []api.Form
	names      []string
}

func args(t *testing.T) arguments {
	return arguments{
		program: program(t, nested),
		set:     set("z -2 5, b 0 3, k 7 9", "2*b - z + 1", "3", "6*k - 4*z - 21", "k - b - 4", "2*b - z + 5"),
		other:   set("z -1 6, b 0 2, k 7 9", "z - b", "9"),
		point:   []int{0, 1, 7},
		forms:   forms("z + 2*k", "z - 3"),
		names:   []string{"b", "z"},
	}
}

// sets are the results of functions that make sets.
func (a arguments) sets(t *testing.T) []api.Set {
	t.Helper()
	m, e1 := affine.Meet(a.set, a.other)
	c, e2 := affine.Tight(a.set)
	s, e3 := affine.Shadow(a.set, "z")
	b, e4 := affine.Mapped(a.set, "b", a.forms[1])
	d, e5 := affine.Domain(a.program, "s")
	same(t, "errors", []any{e1, e2, e3, e4, e5}, make([]int, 5))
	return []api.Set{m, c, s, b, d}
}

// lists are the results of functions that make lists of points.
func (a arguments) lists(t *testing.T) [][][]int {
	t.Helper()
	l, e1 := affine.Points(a.set)
	p, e2 := affine.Projected(a.set, a.names)
	least, _, e3 := affine.Least(a.set)
	greatest, _, e4 := affine.Greatest(a.set)
	same(t, "errors", []any{e1, e2, e3, e4}, make([]int, 4))
	return [][][]int{l, p, {least, greatest}}
}

// summary is the results of all functions.
func (a arguments) summary(t *testing.T) string {
	t.Helper()
	is, e := affine.Same(a.set, a.other)
	return fmt.Sprint(sided(a.set, a.point, a.forms[0], a.forms, a.names, "b", a.forms[1]), is, e, affine.CheckSet(a.other), a.sets(t), a.lists(t))
}

// scrap overwrites all lists of a set, and what lies behind them.
func scrap(s api.Set) {
	for _, f := range s.Conds {
		clear(f.Terms)
		_ = append(f.Terms, api.Term{Name: "!", Coef: -9})
	}
	clear(s.Conds)
	clear(s.Sides)
	_ = append(s.Conds, api.Form{Const: -9})
	_ = append(s.Sides, api.Side{Name: "!"})
}

// Z2: arguments are not changed.
func TestArgumentsStay(t *testing.T) {
	a := args(t)
	a.summary(t)
	same(t, "arguments", a, args(t))
}

// Z2: results are new memory: changing them changes neither arguments nor other results.
func TestResultsShareNothing(t *testing.T) {
	a := args(t)
	want := a.summary(t)
	for _, s := range a.sets(t) {
		scrap(s)
	}
	for _, l := range a.lists(t) {
		for _, x := range l {
			clear(x)
		}
		clear(l)
	}
	same(t, "arguments", a, args(t))
	same(t, "all", a.summary(t), want)
}

// Z2: no two parts of a result share memory.
func TestPartsShareNothing(t *testing.T) {
	a := args(t)
	for _, s := range append(a.sets(t), meetOf(t, a.set)) {
		before := shown(s)
		for i, f := range s.Conds {
			kept := slices.Clone(f.Terms)
			clear(f.Terms)
			_ = append(f.Terms, api.Term{Name: "!"}, api.Term{Name: "!"})
			s.Conds[i].Terms = kept
		}
		same(t, "set", shown(s), before)
	}
	for _, l := range a.lists(t) {
		before := fmt.Sprint(l)
		for i, x := range l {
			l[i] = slices.Clone(x)
			clear(x)
			_ = append(x, -9, -9, -9)
		}
		same(t, "list", l, before)
	}
}

// meetOf is a set that meets itself.
func meetOf(t *testing.T, s api.Set) api.Set {
	t.Helper()
	m, e := affine.Meet(s, s)
	same(t, "Meet", e, api.OK)
	return m
}

// Z2: what was made stays as it is when arguments are changed later.
func TestArgumentsAreNotKept(t *testing.T) {
	a := args(t)
	sets, lists := a.sets(t), a.lists(t)
	before := fmt.Sprint(sets, lists)
	scrap(a.set)
	scrap(a.other)
	scrap(api.Set{Conds: a.forms})
	clear(a.point)
	clear(a.names)
	loop := a.program.Steps[0]
	scrap(api.Set{Conds: loop.Body[0].Conds})
	scrap(api.Set{Conds: []api.Form{loop.High[0].Form, loop.Body[0].Body[0].High[1].Form}})
	clear(loop.Low)
	clear(loop.Body)
	same(t, "results", fmt.Sprint(sets, lists), before)
}

// Z2: what is in the memory of a list after its length is not looked at, and stays.
func TestMemoryBehindLists(t *testing.T) {
	a := args(t)
	want := a.summary(t)
	bad := api.Form{Const: -9}
	for _, s := range []*api.Set{&a.set, &a.other} {
		s.Sides = append(s.Sides, api.Side{Name: "!"})[:len(s.Sides)]
		s.Conds = append(s.Conds, bad)[:len(s.Conds)]
		for i, f := range s.Conds {
			s.Conds[i].Terms = append(f.Terms, api.Term{Name: "!"})[:len(f.Terms)]
		}
	}
	a.forms = append(a.forms, bad)[:2]
	a.names = append(a.names, "!")[:2]
	a.point = append(a.point, -9)[:3]
	same(t, "all", a.summary(t), want)
	for _, s := range []api.Set{a.set, a.other} {
		n, m := len(s.Sides), len(s.Conds)
		same(t, "behind", []any{s.Sides[:n+1][n], s.Conds[:m+1][m]}, []any{api.Side{Name: "!"}, bad})
		for _, f := range s.Conds {
			same(t, "behind", f.Terms[:len(f.Terms)+1][len(f.Terms)], api.Term{Name: "!"})
		}
	}
	same(t, "behind", []any{a.forms[:3][2], a.names[:3][2], a.point[:4][3]}, []any{bad, "!", -9})
}

// Z1: programs that hold themselves have no end, but calls do.
func TestEndlessValues(t *testing.T) {
	body := []api.Step{{Kind: api.StepIf, Conds: []api.Form{{}}}, {Kind: api.StepIf, Conds: []api.Form{{}}}}
	body[0].Body, body[1].Body = body, body
	d, e := affine.Domain(api.Program{Steps: body}, "s")
	same(t, "Domain", []any{d, e}, []any{api.Set{}, api.ErrLarge})
}

// Z1: arguments as large as they can be.
func TestLargeValues(t *testing.T) {
	const most = 200_000
	refused(t, api.Set{Sides: make([]api.Side, most)}, api.ErrLarge)
	refused(t, api.Set{Conds: make([]api.Form, most)}, api.ErrLarge)
	refused(t, api.Set{Sides: []api.Side{{Name: strings.Repeat("a", most)}}}, api.ErrName)
	large := api.Form{Terms: make([]api.Term, most)}
	refused(t, api.Set{Conds: []api.Form{large}}, api.ErrLarge)
	a := args(t)
	got := sided(a.set, make([]int, most), large, make([]api.Form, most), make([]string, most), strings.Repeat("a", most), large)
	same(t, "Has", got[0], fmt.Sprint("Has ", []any{false, api.ErrForm}))
	same(t, "Range", got[5:9], []string{
		fmt.Sprint("Range ", []any{0, 0, false, api.ErrLarge}),
		fmt.Sprint("Implies ", []any{false, api.ErrLarge}),
		fmt.Sprint("Image ", []any{0, api.ErrLarge}),
		fmt.Sprint("Projected ", []any{[]int{}, api.ErrLarge}),
	})
	_, e := affine.Mapped(a.set, "b", large)
	same(t, "Mapped", e, api.ErrLarge)
	_, e = affine.Domain(a.program, strings.Repeat("a", most))
	same(t, "Domain", e, api.ErrName)
}

// Z1: the largest boxes with the most conditions have an end soon.
func TestLongWays(t *testing.T) {
	s := set("a 1 200000, b 0 0, c 0 0, d 0 0, e 0 0, f 0 0, g 0 0, h 0 0")
	f := form("a + b + c + d + e + f + g + h")
	s.Conds = slices.Repeat([]api.Form{f}, api.MaxConds)
	back := set("h 0 0, g 0 0, f 0 0, e 0 0, d 0 0, c 0 0, b 0 0, a 1 200000")
	back.Conds = s.Conds
	for _, s := range []api.Set{s, back} {
		is, e := affine.Same(s, s)
		same(t, "Same", []any{is, e}, []any{true, api.OK})
		n, e := affine.Image(s, slices.Repeat([]api.Form{f}, api.MaxTimes))
		same(t, "Image", []any{n, e}, []any{200_000, api.OK})
		low, high, some, e := affine.Range(s, f)
		same(t, "Range", []any{low, high, some, e}, []any{1, 200_000, true, api.OK})
	}
}

// Z1 and Z7: calls of several goroutines do not disturb each other, and always have the same results.
func TestCallsAtOnce(t *testing.T) {
	a := args(t)
	want := a.summary(t)
	var group sync.WaitGroup
	for range 8 {
		group.Go(func() {
			for range 20 {
				if got := a.summary(t); got != want {
					t.Errorf("got %s, want %s", short(got), short(want))
				}
			}
		})
	}
	group.Wait()
}
