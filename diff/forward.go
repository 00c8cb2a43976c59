package diff

import (
	"warpbeam/api"
)

// behind stands behind the names of all that has to do with derivatives.
const behind = "_d"

// forwarded is steps in which a statement that sets the derivative is put before each statement: so it reads what this one is going to change.
func forwarded(l []api.Step) []api.Step {
	var out []api.Step
	for _, s := range l {
		if s.Kind == api.StepSet {
			_, d := derived(s.Expr)
			out = append(out, set(s.Name+behind, read(s.Array+behind, s.Subs), d))
		}
		s.Body = forwarded(s.Body)
		out = append(out, s)
	}
	return out
}

// derived is an expression and its derivative, both simple.
func derived(x api.Expr) (api.Expr, api.Expr) {
	switch x.Op {
	case api.OpNumber, api.OpForm:
		return simple(x), number(0)
	case api.OpRead:
		return x, read(x.Array+behind, x.Subs)
	}
	a, da := derived(x.Args[0])
	b, db := derived(x.Args[1])
	if x.Op == api.OpMul {
		return joined(api.OpMul, a, b), joined(api.OpAdd, joined(api.OpMul, da, b), joined(api.OpMul, a, db))
	}
	return joined(x.Op, a, b), joined(x.Op, da, db)
}

// read is a cell as an expression.
func read(array string, subs []api.Form) api.Expr {
	return api.Expr{Op: api.OpRead, Array: array, Subs: subs}
}

// set is a statement that sets a cell, given as it is read.
func set(name string, cell, x api.Expr) api.Step {
	return api.Step{Kind: api.StepSet, Name: name, Array: cell.Array, Subs: cell.Subs, Expr: x}
}
