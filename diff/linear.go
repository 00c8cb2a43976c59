package diff

import (
	"slices"

	"warpbeam/api"
)

// areLinear reports whether the expressions of all statements are.
func areLinear(l []api.Step) bool {
	return !slices.ContainsFunc(l, func(s api.Step) bool {
		return s.Kind == api.StepSet && !isLinear(simple(s.Expr), false) || !areLinear(s.Body)
	})
}

// isLinear reports whether a simple expression is linear in its reads; scales tells whether it is multiplied by an expression that reads.
func isLinear(x api.Expr, scales bool) bool {
	switch x.Op {
	case api.OpNumber:
		return scales || x.N == 0
	case api.OpForm:
		return scales
	case api.OpRead:
		return true
	}
	a, b := x.Args[0], x.Args[1]
	if x.Op != api.OpMul {
		return isLinear(a, scales) && isLinear(b, scales)
	}
	left, right := reads(a), reads(b)
	return !(left && right) && isLinear(a, scales || right) && isLinear(b, scales || left)
}

// reads reports whether there is a read in an expression.
func reads(x api.Expr) bool { return x.Op == api.OpRead || slices.ContainsFunc(x.Args, reads) }
