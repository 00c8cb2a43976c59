package nest_test

import (
	"strconv"

	"warpbeam/api"
)

// gen makes arguments, the same ones in each run of the tests.
type gen struct {
	state uint64
	count int // statements so far
}

func dice(seed uint64) *gen { return &gen{state: seed} }

func (g *gen) below(n int) int {
	g.state = g.state*6364136223846793005 + 1442695040888963407
	return int(g.state>>33) % n
}

// form makes a form of some of the names, which have to rise.
func (g *gen) form(names ...string) api.Form {
	f := api.Form{Const: g.below(21) - 10}
	for _, s := range names {
		if n := g.below(7) - 3; n != 0 {
			f.Terms = append(f.Terms, api.Term{Name: s, Coef: n})
		}
	}
	return f
}

// program makes a program that is right.
func (g *gen) program() api.Program {
	g.count = 0
	return api.Program{
		Arrays: []api.Array{{Key: "a", Sizes: []int{5}}, {Key: "b", Sizes: []int{3, 4}}, {Key: "c", Sizes: []int{2, 2, 2, 2}}},
		Steps:  g.body(nil, 1),
	}
}

func (g *gen) body(around []string, depth int) []api.Step {
	var l []api.Step
	for range g.below(4) {
		l = append(l, g.step(around, depth))
	}
	return l
}

func (g *gen) step(around []string, depth int) api.Step {
	kind := 1 + g.below(3)
	if depth == 5 {
		kind = api.StepSet
	}
	switch kind {
	case api.StepLoop:
		name := "i" + strconv.Itoa(depth)
		s := api.Step{Kind: kind, Name: name, Low: g.bounds(around), High: g.bounds(around)}
		inner := append(append([]string{}, around...), name)
		s.Body = g.body(inner, depth+1)
		return s
	case api.StepIf:
		s := api.Step{Kind: kind, Body: g.body(around, depth+1)}
		for range 1 + g.below(3) {
			s.Conds = append(s.Conds, g.form(around...))
		}
		return s
	}
	g.count++
	array, subs := g.place(around)
	return api.Step{Kind: kind, Name: "s" + strconv.Itoa(g.count), Array: array, Subs: subs, Expr: g.expr(around, 1)}
}

func (g *gen) bounds(around []string) []api.Bound {
	var l []api.Bound
	for range 1 + g.below(3) {
		l = append(l, api.Bound{Form: g.form(around...), Div: 1 + g.below(3)})
	}
	return l
}

func (g *gen) place(around []string) (string, []api.Form) {
	dims := []int{1, 2, 4}
	n := g.below(3)
	var subs []api.Form
	for range dims[n] {
		subs = append(subs, g.form(around...))
	}
	return "abc"[n : n+1], subs
}

func (g *gen) expr(around []string, depth int) api.Expr {
	op := 1 + g.below(6)
	if depth == 6 {
		op = 1 + g.below(3)
	}
	switch op {
	case api.OpNumber:
		return number(g.below(api.Prime))
	case api.OpForm:
		return formed(g.form(around...))
	case api.OpRead:
		array, subs := g.place(around)
		return read(array, subs...)
	}
	x := g.expr(around, depth+1)
	return both(op, x, g.expr(around, depth+1))
}
