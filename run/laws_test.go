package run_test

import (
	"fmt"
	"slices"
	"testing"

	"warpbeam/api"
	"warpbeam/nest"
	"warpbeam/run"
)

// naive does a program just as the chapter says it, by names.
type naive struct {
	program   api.Program
	rounds    int
	instances []api.Instance
	points    []api.Point // of the instances
	accesses  []api.Access
	outside   bool // an index of an access lies outside
}

func naiveOf(p api.Program) *naive {
	n := &naive{program: p}
	n.steps(p.Steps, nil)
	for i, x := range n.instances {
		s, _, _ := nest.Statement(p, x.Key)
		n.expr(s.Expr, n.points[i], func(a api.Spot) int {
			n.accesses = append(n.accesses, api.Access{Instance: i, Array: a.Array, Cell: a.Cell})
			return 0
		})
		a := n.spot(s.Array, s.Subs, n.points[i])
		n.accesses = append(n.accesses, api.Access{Instance: i, Sets: true, Array: a.Array, Cell: a.Cell})
	}
	return n
}

// value is that of a form; point is in the order of the loops, from outside to inside, and their names rise.
func value(f api.Form, x api.Point) int {
	n, _ := nest.Value(f, x)
	return n
}

func (n *naive) steps(l []api.Step, x api.Point) {
	for _, s := range l {
		switch s.Kind {
		case api.StepLoop:
			n.loop(s, x)
		case api.StepIf:
			if !slices.ContainsFunc(s.Conds, func(f api.Form) bool { return value(f, x) < 0 }) {
				n.steps(s.Body, x)
			}
		case api.StepSet:
			var values []int
			for _, v := range x {
				values = append(values, v.Value)
			}
			n.instances = append(n.instances, api.Instance{Key: s.Name, Values: values})
			n.points = append(n.points, x)
		}
	}
}

// loop tries all values that a round of these programs can have.
func (n *naive) loop(s api.Step, x api.Point) {
	for i := -100; i <= 100; i++ {
		low := func(b api.Bound) bool { return i*b.Div < value(b.Form, x) }
		high := func(b api.Bound) bool { return i*b.Div > value(b.Form, x) }
		if slices.ContainsFunc(s.Low, low) || slices.ContainsFunc(s.High, high) {
			continue
		}
		n.rounds++
		n.steps(s.Body, append(slices.Clone(x), api.Slot{Name: s.Name, Value: i}))
	}
}

func (n *naive) spot(array string, subs []api.Form, x api.Point) api.Spot {
	var index []int
	for _, f := range subs {
		index = append(index, value(f, x))
	}
	for _, a := range n.program.Arrays {
		if a.Key == array {
			cell, found, _ := nest.Cell(a, index)
			n.outside = n.outside || !found
			return spot(array, cell)
		}
	}
	return api.Spot{}
}

func (n *naive) expr(e api.Expr, x api.Point, read func(api.Spot) int) int {
	v := e.N
	switch e.Op {
	case api.OpForm:
		v = value(e.Form, x)
	case api.OpRead:
		v = read(n.spot(e.Array, e.Subs, x))
	case api.OpAdd:
		v = n.expr(e.Args[0], x, read) + n.expr(e.Args[1], x, read)
	case api.OpSub:
		v = n.expr(e.Args[0], x, read) - n.expr(e.Args[1], x, read)
	case api.OpMul:
		v = n.expr(e.Args[0], x, read) * n.expr(e.Args[1], x, read)
	}
	return (v%api.Prime + api.Prime) % api.Prime
}

// result is the grids after some instances in an order.
func (n *naive) result(g []api.Grid, order []int) []api.Grid {
	memory := map[api.Spot]int{}
	for _, x := range g {
		for i, v := range x.Values {
			memory[spot(x.Key, i)] = v
		}
	}
	for _, i := range order {
		s, _, _ := nest.Statement(n.program, n.instances[i].Key)
		v := n.expr(s.Expr, n.points[i], func(a api.Spot) int { return memory[a] })
		memory[n.spot(s.Array, s.Subs, n.points[i])] = v
	}
	var l []api.Grid
	for _, a := range n.program.Arrays {
		x := grid(a.Key)
		cells, _ := nest.Cells(api.Program{Arrays: []api.Array{a}})
		for i := range cells {
			x.Values = append(x.Values, memory[spot(a.Key, i)])
		}
		l = append(l, x)
	}
	slices.SortFunc(l, func(x, y api.Grid) int { return int(x.Key[0]) - int(y.Key[0]) })
	return l
}

// flow is the sources of all accesses of an order, by the instance and the number of its access, and the last instances that set spots.
func (n *naive) flow(order []int) (map[[2]int]int, map[api.Spot]int) {
	sources, last := map[[2]int]int{}, map[api.Spot]int{}
	for _, i := range order {
		at := 0
		for _, a := range n.accesses {
			if a.Instance != i {
				continue
			}
			s, is := last[spot(a.Array, a.Cell)]
			if a.Sets || !is {
				s = -1
			}
			sources[[2]int{i, at}] = s
			at++
			if a.Sets {
				last[spot(a.Array, a.Cell)] = i
			}
		}
	}
	return sources, last
}

// natural is the instances in their order.
func (n *naive) natural() []int {
	var l []int
	for i := range n.instances {
		l = append(l, i)
	}
	return l
}

// sourcesOf are those of an instance.
func (n *naive) sourcesOf(i int, flow map[[2]int]int) []int {
	var l []int
	for at := 0; ; at++ {
		s, is := flow[[2]int{i, at}]
		if !is {
			return l
		}
		l = append(l, s)
	}
}

// mark marks an instance, and the sources of its reads.
func (n *naive) mark(i int, flow map[[2]int]int, is []bool) {
	if i < 0 || is[i] {
		return
	}
	is[i] = true
	for _, s := range n.sourcesOf(i, flow) {
		n.mark(s, flow, is)
	}
}

func (n *naive) useful(keys []string) []bool {
	is := make([]bool, len(n.instances))
	flow, last := n.flow(n.natural())
	for s, i := range last {
		if slices.Contains(keys, s.Array) {
			n.mark(i, flow, is)
		}
	}
	return is
}

func (n *naive) needs(s api.Spot) []api.Spot {
	flow, last := n.flow(n.natural())
	end, set := last[s]
	if !set {
		return []api.Spot{s}
	}
	is := make([]bool, len(n.instances))
	n.mark(end, flow, is)
	var l []api.Spot
	at := map[int]int{}
	for _, a := range n.accesses {
		source := flow[[2]int{a.Instance, at[a.Instance]}]
		at[a.Instance]++
		if x := spot(a.Array, a.Cell); is[a.Instance] && !a.Sets && source < 0 && !slices.Contains(l, x) {
			l = append(l, x)
		}
	}
	slices.SortFunc(l, func(x, y api.Spot) int { return 1000*(int(x.Array[0])-int(y.Array[0])) + x.Cell - y.Cell })
	return l
}

// eachProgram calls test with many programs, of which most can be run.
func eachProgram(t *testing.T, seed uint64, test func(g *gen, n *naive)) {
	t.Helper()
	g := dice(seed)
	many := 0
	for range 400 {
		n := naiveOf(g.program(t))
		if n.outside || len(n.instances) == 0 {
			_, e := run.Accesses(n.program)
			same(t, written(t, n.program), e == api.ErrRule, n.outside)
			continue
		}
		many++
		test(g, n)
	}
	if many < 100 {
		t.Errorf("just %d programs", many)
	}
}

func TestRunsAreAsNaive(t *testing.T) {
	eachProgram(t, 1, func(g *gen, n *naive) {
		text := written(t, n.program)
		l, e := run.Instances(n.program)
		same(t, text, []any{l, e}, []any{n.instances, api.OK})
		rounds, e := run.Rounds(n.program)
		same(t, text, []any{rounds, e}, []any{n.rounds, api.OK})
		a, e := run.Accesses(n.program)
		same(t, text, []any{a, e}, []any{n.accesses, api.OK})
		flow, _ := n.flow(n.natural())
		var want []int
		for i := range n.instances {
			want = append(want, n.sourcesOf(i, flow)...)
		}
		sources, e := run.Sources(n.program)
		same(t, text, []any{sources, e}, []any{want, api.OK})
		in := g.grids(n.program)
		out, e := run.Run(n.program, in)
		same(t, text, []any{out, e}, []any{n.result(in, n.natural()), api.OK})
	})
}

// shuffled is the instances in any order.
func (g *gen) shuffled(n *naive) []int {
	l := n.natural()
	for i := range l {
		j := g.below(i + 1)
		l[i], l[j] = l[j], l[i]
	}
	return l
}

func TestOrdersAreAsNaive(t *testing.T) {
	eachProgram(t, 2, func(g *gen, n *naive) {
		order, in := g.shuffled(n), g.grids(n.program)
		out, e := run.InOrder(n.program, in, order)
		same(t, written(t, n.program), []any{out, e}, []any{n.result(in, order), api.OK})
	})
}

// Any order that keeps sources and last settings has the same grids at the end.
func TestOrdersThatKeepSources(t *testing.T) {
	changed := 0
	eachProgram(t, 3, func(g *gen, n *naive) {
		if len(n.instances) < 2 || len(n.instances) > 30 {
			return
		}
		order, in := n.natural(), g.grids(n.program)
		flow, last := n.flow(order)
		for range 40 {
			next := slices.Clone(order)
			i := g.below(len(order) - 1)
			next[i], next[i+1] = next[i+1], next[i]
			f, l := n.flow(next)
			if fmt.Sprint(f, l) == fmt.Sprint(flow, last) {
				order = next
				changed++
			}
		}
		want, _ := run.Run(n.program, in)
		out, e := run.InOrder(n.program, in, order)
		same(t, written(t, n.program), []any{out, e}, []any{want, api.OK})
	})
	if changed < 100 {
		t.Errorf("just %d changes of orders", changed)
	}
}

// some are some of the keys of these programs, in any order.
func (g *gen) some() []string {
	l := [][]string{nil, {"a"}, {"b"}, {"c"}, {"b", "a"}, {"a", "c"}, {"c", "b"}, {"c", "a", "b"}}
	return l[g.below(len(l))]
}

// ofKeys are the grids of some arrays.
func ofKeys(g []api.Grid, keys []string) []api.Grid {
	return slices.DeleteFunc(slices.Clone(g), func(x api.Grid) bool { return !slices.Contains(keys, x.Key) })
}

// Idle instances can be left out without changing the arrays for which they are; and each other one counts.
func TestIdleInstancesAreIdle(t *testing.T) {
	eachProgram(t, 4, func(g *gen, n *naive) {
		keys, in, text := g.some(), g.grids(n.program), written(t, n.program)
		idle, e := run.Idle(n.program, keys)
		useful := n.useful(keys)
		var left, want []int
		for i, is := range useful {
			if is {
				left = append(left, i)
			} else {
				want = append(want, i)
			}
		}
		same(t, text, []any{idle, e}, []any{want, api.OK})
		out, _ := run.Run(n.program, in)
		same(t, text, ofKeys(n.result(in, left), keys), ofKeys(out, keys))
	})
}

// A trimmed program sets these arrays as the program does, and has no statement without use.
func TestTrimmedProgramsDoTheSame(t *testing.T) {
	eachProgram(t, 5, func(g *gen, n *naive) {
		keys, in, text := g.some(), g.grids(n.program), written(t, n.program)
		used := map[string]bool{}
		for i, is := range n.useful(keys) {
			if is {
				used[n.instances[i].Key] = true
			}
		}
		q, many, e := run.Trimmed(n.program, keys)
		all, _ := nest.Statements(n.program)
		left, _ := nest.Statements(q)
		want := slices.DeleteFunc(slices.Clone(all), func(s string) bool { return !used[s] })
		same(t, text, []any{left, many, e}, []any{want, len(all) - len(want), api.OK})
		gone := slices.DeleteFunc(all, func(s string) bool { return used[s] })
		r, e := run.Without(n.program, gone)
		same(t, text, []any{written(t, r), e}, []any{written(t, q), api.OK})
		before, _ := run.Run(n.program, in)
		after, _ := run.Run(q, in)
		same(t, text, ofKeys(after, keys), ofKeys(before, keys))
	})
}

// A spot has the same value at the end on all grids that are equal at the spots that it needs.
func TestNeedsAreEnough(t *testing.T) {
	eachProgram(t, 6, func(g *gen, n *naive) {
		text := written(t, n.program)
		s := []api.Spot{spot("a", g.below(6)), spot("b", g.below(12)), spot("c", g.below(5))}[g.below(3)]
		l, e := run.Needs(n.program, s)
		same(t, text, []any{l, e}, []any{n.needs(s), api.OK})
		in, _ := run.Run(program(t, "array b[3, 4]; array c[5]; array a[6];"), g.grids(n.program))
		before, _ := run.Run(n.program, in)
		for _, x := range in {
			for i := range x.Values {
				if !slices.Contains(l, spot(x.Key, i)) {
					x.Values[i] = g.value()
				}
			}
		}
		after, _ := run.Run(n.program, in)
		at := slices.IndexFunc(after, func(x api.Grid) bool { return x.Key == s.Array })
		same(t, fmt.Sprint(text, s), after[at].Values[s.Cell], before[at].Values[s.Cell])
	})
}

// Differ finds the first list with which runs differ.
func TestDifferIsAsRuns(t *testing.T) {
	g := dice(7)
	kinds := map[string]int{}
	eachProgram(t, 8, func(h *gen, n *naive) {
		q, _, _ := run.Trimmed(n.program, h.some())
		var all [][]api.Grid
		want, is := 0, false
		for i := range 3 {
			in := g.grids(n.program)
			all = append(all, in)
			x, _ := run.Run(n.program, in)
			y, _ := run.Run(q, in)
			if !is && fmt.Sprint(x) != fmt.Sprint(y) {
				want, is = i, true
			}
		}
		at, found, e := run.Differ(n.program, q, all)
		same(t, written(t, n.program), []any{at, found, e}, []any{want, is, api.OK})
		kinds[fmt.Sprint(at, found)]++
	})
	if len(kinds) < 3 {
		t.Errorf("just %v", kinds)
	}
}
