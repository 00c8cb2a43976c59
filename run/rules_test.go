package run_test

import (
	"fmt"
	"slices"
	"strconv"
	"strings"
	"sync"
	"testing"

	"warpbeam/api"
	"warpbeam/nest"
	"warpbeam/run"
)

// all has a bit of everything.
const all = `array b[2, 3];
array a[6];
for i = 0 .. 2 {
  for j = max(0, i - 1) .. (i + 3)/2 {
    if i - j >= 0, 5 >= 0 {
      s: a[i] = a[j + 1] * b[1, j] + <i - 2*j>;
    }
    t: b[0, i] = a[5 - i] - 3;
  }
}
u: a[5] = a[0];
`

// summary is the results of all functions.
func summary(p api.Program, g []api.Grid) string {
	instances, a := run.Instances(p)
	rounds, b := run.Rounds(p)
	accesses, c := run.Accesses(p)
	after, d := run.Run(p, g)
	order := make([]int, len(instances))
	for i := range order {
		order[i] = len(order) - 1 - i
	}
	turned, e := run.InOrder(p, g, order)
	sources, f := run.Sources(p)
	idle, h := run.Idle(p, []string{"b"})
	without, i := run.Without(p, []string{"u", "s"})
	trimmed, n, j := run.Trimmed(p, []string{"b"})
	needs, k := run.Needs(p, spot("b", 2))
	at, found, l := run.Differ(p, trimmed, [][]api.Grid{nil, g})
	text, m := run.GridsText(after)
	read, line, o := run.ReadGrids(text)
	return fmt.Sprint(instances, rounds, accesses, after, turned, sources, idle, without, trimmed, n, needs, at, found, text, read, line,
		a, b, c, d, e, f, h, i, j, k, l, m, o, run.CheckGrids(p, g))
}

// Z2: arguments are not changed.
func TestArgumentsStay(t *testing.T) {
	p := program(t, all)
	g := grids(grid("a", 1, 2, 3, 4, 5, 6), grid("b", 6, 5, 4, 3, 2, 1))
	keys, order := []string{"b", "a"}, []int{8, 7, 6, 5, 4, 3, 2, 1, 0}
	before := fmt.Sprint(p, g)
	summary(p, g)
	run.Idle(p, keys)
	run.Trimmed(p, keys)
	run.InOrder(p, g, order)
	run.Without(p, keys)
	same(t, "arguments", fmt.Sprint(p, g, keys, order), before+" [b a] [8 7 6 5 4 3 2 1 0]")
}

// scrapSteps overwrites all lists of steps.
func scrapSteps(l []api.Step) {
	for i, s := range l {
		for _, b := range slices.Concat(s.Low, s.High) {
			scrapForms([]api.Form{b.Form})
		}
		clear(s.Low)
		clear(s.High)
		scrapForms(s.Conds)
		scrapForms(s.Subs)
		scrapExpr(s.Expr)
		scrapSteps(s.Body)
		l[i] = api.Step{}
	}
}

func scrapForms(l []api.Form) {
	for _, f := range l {
		clear(f.Terms)
	}
	clear(l)
}

func scrapExpr(x api.Expr) {
	scrapForms([]api.Form{x.Form})
	scrapForms(x.Subs)
	for _, y := range x.Args {
		scrapExpr(y)
	}
	clear(x.Args)
}

func scrapProgram(p api.Program) {
	for _, a := range p.Arrays {
		clear(a.Sizes)
	}
	clear(p.Arrays)
	scrapSteps(p.Steps)
}

func scrapGrids(g []api.Grid) {
	for _, x := range g {
		clear(x.Values)
		_ = append(x.Values, 77)
	}
	clear(g)
}

// Z2: results are new memory, also parts of one result.
func TestResultsShareNothing(t *testing.T) {
	p := program(t, all)
	g := grids(grid("a", 1, 2, 3, 4, 5, 6), grid("b", 6, 5, 4, 3, 2, 1))
	before := summary(p, g)
	if _, e := run.Run(p, g); e != api.OK {
		t.Fatal(e)
	}
	without, _ := run.Without(p, nil)
	scrapProgram(without)
	trimmed, _, _ := run.Trimmed(p, []string{"a", "b"})
	scrapProgram(trimmed)
	out, _ := run.Run(p, g)
	scrapGrids(out)
	out, _ = run.Run(program(t, "array a[6]; array b[6];"), g)
	scrapGrids(out)
	same(t, "all", summary(p, g), before)
	l, _ := run.Instances(p)
	want := done(l[1:])
	l[0].Values = append(l[0].Values[:0], 9, 9, 9, 9)
	same(t, "Instances", done(l[1:]), want)
	out, _ = run.Run(p, g)
	b := slices.Clone(out[1].Values)
	out[0].Values = append(out[0].Values, 9, 9, 9)
	clear(out[0].Values)
	same(t, "Run", out[1].Values, b)
	read, _, _ := run.ReadGrids("a 1 2\nb 3 4\n")
	read[0].Values = append(read[0].Values, 9, 9)
	same(t, "ReadGrids", read[1], grid("b", 3, 4))
}

// Z2: what was made stays as it is when arguments are changed later.
func TestArgumentsAreNotKept(t *testing.T) {
	p := program(t, all)
	g := grids(grid("a", 1, 2, 3, 4, 5, 6))
	without, _ := run.Without(p, []string{"u"})
	trimmed, _, _ := run.Trimmed(p, []string{"a"})
	out, _ := run.Run(program(t, "array a[6];"), g)
	before := fmt.Sprint(without, trimmed, out)
	scrapProgram(p)
	scrapGrids(g)
	same(t, "results", fmt.Sprint(without, trimmed, out), before)
}

// Z2: what is in the memory of a list after its length is not looked at, and stays.
func TestMemoryBehindLists(t *testing.T) {
	p := program(t, all)
	g := grids(grid("a", 1, 2, 3, 4, 5, 6, -9), grid("b", 6, 5, 4, 3, 2, 1, -9), grid("!", -9))
	g[0].Values, g[1].Values = g[0].Values[:6], g[1].Values[:6]
	p.Steps = append(p.Steps, api.Step{Kind: -9})
	p.Arrays = append(p.Arrays, api.Array{Key: "!"})
	same(t, "all", summary(api.Program{Arrays: p.Arrays[:2], Steps: p.Steps[:2]}, g[:2]), summary(program(t, all), grids(grid("a", 1, 2, 3, 4, 5, 6), grid("b", 6, 5, 4, 3, 2, 1))))
	same(t, "behind", []any{p.Steps[2].Kind, p.Arrays[2].Key, g[2], g[0].Values[:7][6], g[1].Values[:7][6]}, []any{-9, "!", grid("!", -9), -9, -9})
}

// Z1: values that hold themselves have no end, but calls do.
func TestEndlessValues(t *testing.T) {
	body := []api.Step{{Kind: api.StepIf, Conds: []api.Form{{}}}}
	body[0].Body = body
	args := make([]api.Expr, 2)
	args[0] = api.Expr{Op: api.OpAdd, Args: args}
	args[1] = args[0]
	sums := program(t, "array a[1]; s: a[0] = 1;")
	sums.Steps[0].Expr = args[0]
	for _, p := range []api.Program{{Steps: body}, sums} {
		_, e := run.Run(p, nil)
		same(t, "Run", e, api.ErrLarge)
		_, e = run.Without(p, nil)
		same(t, "Without", e, api.ErrLarge)
	}
}

// Z1: arguments as large as they can be.
func TestLargeValues(t *testing.T) {
	const many = 200_000
	p := program(t, "array a[20000]; for i = 0 .. 19999 { s: a[i] = a[19999 - i] + a[i] * a[0] - <i>; }")
	same(t, "grids", run.CheckGrids(p, make([]api.Grid, many)), api.ErrName)
	same(t, "values", run.CheckGrids(p, grids(grid("a", make([]int, many)...))), api.ErrForm)
	_, e := run.GridsText(make([]api.Grid, many))
	same(t, "grids", e, api.ErrName)
	_, e = run.GridsText(grids(grid("a", make([]int, many)...)))
	same(t, "values", e, api.ErrLarge)
	_, e = run.InOrder(p, nil, make([]int, many))
	same(t, "order", e, api.ErrForm)
	keys := slices.Repeat([]string{"a"}, many)
	_, e = run.Idle(p, keys)
	same(t, "keys", e, api.ErrTwice)
	_, e = run.Without(p, keys)
	same(t, "names", e, api.ErrNone)
	_, _, e = run.Differ(p, p, make([][]api.Grid, many))
	same(t, "lists", e, api.ErrLarge)
	same(t, "key", run.CheckGrids(p, grids(grid(strings.Repeat("a", many)))), api.ErrName)
	_, _, e = run.ReadGrids(strings.Repeat(" ", many))
	same(t, "text", e, api.ErrLarge)
	_, line, e := run.ReadGrids(strings.Repeat("a 1\n", 12_499) + "a\n")
	same(t, "lines", []any{line, e}, []any{12_499, api.ErrSyntax})
	l, e := run.Needs(p, spot("a", 0))
	same(t, "needs", []any{len(l), e}, []any{2, api.OK})
}

// Z1: a run that is as long as it can be, with steps that do nothing in each round, has an end soon.
func TestLongRuns(t *testing.T) {
	var b strings.Builder
	b.WriteString("array a[4]; for i = 1 .. 200000 { if 50000 - i >= 0 { s: a[i - i] = a[1] + a[2] * a[0]; } ")
	for i := range 90 {
		n := strconv.Itoa(i)
		b.WriteString("for j" + n + " = max(i, 7, i - 1) .. min(i - 1, 2*i + 3) { } if -i >= 0, i >= 0 { t" + n + ": a[9] = a[9]; } ")
	}
	p := program(t, b.String()+"}")
	n, e := run.Rounds(p)
	same(t, "rounds", []any{n, e}, []any{200_000, api.OK})
	q, many, e := run.Trimmed(p, []string{"a"})
	same(t, "trimmed", []any{many, e}, []any{90, api.OK})
	left, e := nest.Statements(q)
	same(t, "left", []any{left, e}, []any{[]string{"s"}, api.OK})
}

// Z1 and Z7: calls of several goroutines do not disturb each other, and always have the same results.
func TestCallsAtOnce(t *testing.T) {
	p := program(t, all)
	g := grids(grid("a", 1, 2, 3, 4, 5, 6), grid("b", 6, 5, 4, 3, 2, 1))
	want := summary(p, g)
	var group sync.WaitGroup
	for range 8 {
		group.Go(func() {
			for range 20 {
				if got := summary(p, g); got != want {
					t.Errorf("got %s, want %s", short(got), short(want))
				}
			}
		})
	}
	group.Wait()
}
