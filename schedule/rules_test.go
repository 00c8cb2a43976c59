package schedule_test

import (
	"fmt"
	"slices"
	"strings"
	"sync"
	"testing"

	"warpbeam/api"
	"warpbeam/schedule"
)

// arguments are those of all functions.
type arguments struct {
	program  api.Program
	plans    []api.Plan
	instance api.Instance
	matrix   [][]int
}

func args(t *testing.T) arguments {
	return arguments{
		program:  program(t, "array a[4, 4]; array b[4]; for i = 1 .. 3 { for j = 1 .. i { if i - 1 >= 0 { s: a[i, j] = a[i - 1, j] + a[i, j - 1]; } } t: b[i] = a[i, i] - b[i - 1]; }"),
		plans:    plans(t, "s: i + j, i, 0; t: 2*i + 1, 7, 1"),
		instance: api.Instance{Key: "s", Values: []int{2, 5}},
		matrix:   [][]int{{1, 1}, {1, 0}},
	}
}

// summary is the results of all functions.
func (a arguments) summary() string {
	l := results(a.program, a.plans)
	add := func(name string, values ...any) { l = append(l, name+fmt.Sprintf(" %+v", values)) }
	add("Check", schedule.Check(a.program, a.plans))
	original, e := schedule.Original(a.program)
	add("Original", original, e)
	x, e := schedule.Time(a.program, a.plans, a.instance)
	add("Time", x, e)
	x2, is, e := schedule.Legal(a.program, []api.Plan{{Key: "s", Times: a.plans[0].Times[1:]}, {Key: "t", Times: a.plans[1].Times[1:]}})
	add("Legal", x2, is, e)
	best, n, is, e := schedule.Search(a.program, 2)
	add("Search", best, n, is, e)
	d, e := schedule.Determinant(a.matrix)
	add("Determinant", d, e)
	m, e := schedule.Inverse(a.matrix)
	add("Inverse", m, e)
	y, e := schedule.Mapped(a.program, "s", a.matrix)
	add("Mapped", y, e)
	return strings.Join(l, "\n")
}

// What the summary is made of has no errors, and both legal and illegal schedules.
func TestSummary(t *testing.T) {
	s := args(t).summary()
	for line := range strings.SplitSeq(s, "\n") {
		if !strings.HasSuffix(line, " 0]") && line != "Check [0]" {
			t.Error(line)
		}
	}
	same(t, "summary", []any{strings.Count(s, "\n"), strings.Count(s, " true 0]"), strings.Count(s, " false 0]")}, []any{12, 2, 1})
}

// Z2: arguments are not changed.
func TestArgumentsStay(t *testing.T) {
	a := args(t)
	want := fmt.Sprintf("%+v", a)
	a.summary()
	same(t, "arguments", fmt.Sprintf("%+v", a), want)
}

// scrapPlans changes all Terms, one list after the other, and looks at all others.
func scrapPlans(t *testing.T, l []api.Plan) {
	t.Helper()
	var rest []api.Form
	for _, x := range l {
		rest = append(rest, x.Times...)
	}
	for len(rest) > 0 {
		f := rest[0]
		rest = rest[1:]
		want := fmt.Sprint(rest)
		for i := range f.Terms {
			f.Terms[i] = api.Term{Name: "!", Coef: -9}
		}
		_ = append(f.Terms, api.Term{Name: "?", Coef: 9})
		same(t, "other forms", fmt.Sprint(rest), want)
	}
	for i, x := range l {
		want := fmt.Sprint(l[i+1:])
		clear(x.Times)
		_ = append(x.Times, api.Form{Const: 77})
		same(t, "other plans", fmt.Sprint(l[i+1:]), want)
	}
}

// scrapInstances changes all values, one list after the other, and looks at all others.
func scrapInstances(t *testing.T, l []api.Instance) {
	t.Helper()
	for i, x := range l {
		want := fmt.Sprint(l[i+1:])
		for at := range x.Values {
			x.Values[at] = -99
		}
		_ = append(x.Values, -99)
		same(t, "other instances", fmt.Sprint(l[i+1:]), want)
	}
}

// scrapRows does the same with the rows of a matrix.
func scrapRows(t *testing.T, m [][]int) {
	t.Helper()
	for i, x := range m {
		want := fmt.Sprint(m[i+1:])
		for at := range x {
			x[at] = -99
		}
		_ = append(x, -99)
		same(t, "other rows", fmt.Sprint(m[i+1:]), want)
	}
}

// Z2: results are new memory: changing them changes neither later results, nor arguments, nor other parts.
func TestResultsShareNothing(t *testing.T) {
	a := args(t)
	want, before := a.summary(), fmt.Sprintf("%+v", a)
	original, _ := schedule.Original(a.program)
	scrapPlans(t, original)
	best, _, _, _ := schedule.Search(a.program, 2)
	scrapPlans(t, best)
	mapped, _ := schedule.Mapped(a.program, "s", a.matrix)
	scrapPlans(t, []api.Plan{mapped})
	order, _ := schedule.Order(a.program, a.plans)
	scrapInstances(t, order)
	x, _, _ := schedule.Legal(a.program, plans(t, "s: 0; t: 0"))
	same(t, "Legal", turned(x), "s[1 1] t[1] a5")
	scrapInstances(t, []api.Instance{x.From, x.To})
	early, _, _ := schedule.Earliest(a.program)
	clear(early)
	parallel, _ := schedule.Parallel(a.program, a.plans)
	clear(parallel)
	time, _ := schedule.Time(a.program, a.plans, a.instance)
	clear(time)
	for _, m := range [][][]int{{{1, 0}, {0, 1}}, a.matrix} {
		inverse, _ := schedule.Inverse(m)
		scrapRows(t, inverse)
	}
	skew, _ := schedule.Skew(3, 0, 1, 1)
	scrapRows(t, skew)
	same(t, "all", a.summary(), want)
	same(t, "arguments", fmt.Sprintf("%+v", a), before)
}

// Z2: what was made stays as it is when arguments are changed later.
func TestArgumentsAreNotKept(t *testing.T) {
	a := args(t)
	original, _ := schedule.Original(a.program)
	mapped, _ := schedule.Mapped(a.program, "s", a.matrix)
	inverse, _ := schedule.Inverse([][]int{{1, 0}, {0, 1}})
	before := fmt.Sprint(original, mapped, inverse, args(t).summary())
	clear(a.program.Steps[0].Body)
	clear(a.program.Steps)
	clear(a.program.Arrays)
	for _, x := range a.plans {
		clear(x.Times)
	}
	clear(a.plans)
	clear(a.matrix[0])
	same(t, "results", fmt.Sprint(original, mapped, inverse, args(t).summary()), before)
}

// Z2: what is in the memory of a list after its length is not looked at, and stays.
func TestMemoryBehindLists(t *testing.T) {
	a := args(t)
	want := a.summary()
	body := append(slices.Clone(a.program.Steps[0].Body), api.Step{Kind: -9})
	a.program.Steps[0].Body = body[:len(body)-1]
	arrays := append(slices.Clone(a.program.Arrays), api.Array{Key: "!"})
	a.program.Arrays = arrays[:len(arrays)-1]
	for i, x := range a.plans {
		a.plans[i].Times = append(slices.Clone(x.Times), api.Form{Const: -9_000_000})[:len(x.Times)]
	}
	l := append(slices.Clone(a.plans), api.Plan{Key: "!"})
	a.plans = l[:2]
	values := append(slices.Clone(a.instance.Values), -9)
	a.instance.Values = values[:2]
	m := [][]int{{1, 1, 9}, {1, 0, 9}, {9, 9, 9}}
	a.matrix = m[:2]
	for i := range a.matrix {
		a.matrix[i] = m[i][:2]
	}
	same(t, "all", a.summary(), want)
	same(t, "behind", []any{body[len(body)-1].Kind, arrays[len(arrays)-1].Key, l[2].Key, values[2], m[2], m[0][:3][2]}, "[-9 ! ! -9 [9 9 9] 9]")
}

// Z1: programs that hold themselves have no end, but calls do.
func TestEndlessValues(t *testing.T) {
	body := []api.Step{{Kind: api.StepIf, Conds: []api.Form{{}}}, {Kind: api.StepIf, Conds: []api.Form{{}}}}
	body[0].Body, body[1].Body = body, body
	p := api.Program{Steps: body}
	same(t, "results", results(p, nil), nothing(api.ErrLarge))
	_, e := schedule.Original(p)
	same(t, "Original", e, api.ErrLarge)
	_, _, _, e = schedule.Search(p, 1)
	same(t, "Search", e, api.ErrLarge)
	_, e = schedule.Mapped(p, "s", nil)
	same(t, "Mapped", e, api.ErrLarge)
}

// Z1: arguments as large as they can be.
func TestLargeValues(t *testing.T) {
	const most = 200_000
	p := program(t, example)
	same(t, "Check", schedule.Check(p, make([]api.Plan, most)), api.ErrForm)
	same(t, "Check", schedule.Check(p, []api.Plan{{Key: strings.Repeat("a", most)}}), api.ErrName)
	same(t, "Check", schedule.Check(p, []api.Plan{{Key: "s", Times: make([]api.Form, most)}}), api.ErrLarge)
	same(t, "Check", schedule.Check(p, []api.Plan{{Key: "s", Times: []api.Form{{Terms: make([]api.Term, most)}}}}), api.ErrLarge)
	l := plans(t, "s: i")
	_, e := schedule.Time(p, l, api.Instance{Key: strings.Repeat("a", most)})
	same(t, "Time", e, api.ErrName)
	_, e = schedule.Time(p, l, api.Instance{Key: "s", Values: make([]int, most)})
	same(t, "Time", e, api.ErrForm)
	_, e = schedule.Mapped(p, strings.Repeat("a", most), nil)
	same(t, "Mapped", e, api.ErrName)
	for _, m := range [][][]int{make([][]int, most), {make([]int, most)}} {
		_, e = schedule.Determinant(m)
		same(t, "Determinant", e, api.ErrForm)
		_, e = schedule.Inverse(m)
		same(t, "Inverse", e, api.ErrForm)
		_, e = schedule.Mapped(p, "s", m)
		same(t, "Mapped", e, api.ErrForm)
	}
}

// Z1: searches with many instances, dependences and schedules have an end soon.
func TestLargeSearches(t *testing.T) {
	for _, c := range []struct {
		text string
		most int
		want []any
	}{
		{"array a[50]; array b[50, 390]; for i = 0 .. 49 { s: a[i] = 1; } for i = 0 .. 49 { for j = 0 .. 389 { t: b[i, j] = a[i]; } }", 3, []any{"s: 0; t: 1", 2, true, api.OK}},
		{"array a[19999]; for i = 0 .. 0 { for j = 0 .. 0 { for k = 0 .. 0 { for l = 0 .. 4 { for m = 0 .. 9994 { s: a[m + l] = 1; } } } } }", 3, []any{"s: l", 5, true, api.OK}},
		// Here each l sets what the one before set, and within each one the second half reads what the first half set: no number is great enough.
		{"array a[9000]; for i = 0 .. 0 { for j = 0 .. 0 { for k = 0 .. 0 { for l = 0 .. 4 { for m = 0 .. 8999 { s: a[8999 - m] = a[m]; } } } } }", 3, []any{"", 0, false, api.OK}},
	} {
		l, n, is, e := schedule.Search(program(t, c.text), c.most)
		same(t, c.text, []any{written(l), n, is, e}, c.want)
	}
}

// Z1 and Z7: calls of several goroutines do not disturb each other, and always have the same results.
func TestCallsAtOnce(t *testing.T) {
	a := args(t)
	want := a.summary()
	var group sync.WaitGroup
	for range 8 {
		group.Go(func() {
			for range 20 {
				if got := a.summary(); got != want {
					t.Errorf("got %s, want %s", short(got), short(want))
				}
			}
		})
	}
	group.Wait()
}
