package diff

import (
	"slices"
	"strconv"

	"warpbeam/api"
)

// bag is the array that holds the number of a cell that is set, while it is shared out.
const bag = "t_b"

// transposed is the steps that go back the way that steps have gone, and share out numbers.
func transposed(l []api.Step) []api.Step {
	var out []api.Step
	for _, s := range slices.Backward(l) {
		if s.Kind == api.StepSet {
			out = append(out, shared(s)...)
			continue
		}
		out = append(out, api.Step{
			Kind:  s.Kind,
			Name:  s.Name,
			Low:   each(s.High, opposite),
			High:  each(s.Low, opposite),
			Conds: each(s.Conds, mirrored),
			Body:  transposed(s.Body),
		})
	}
	return out
}

// mirrored is a form in which each variable is replaced by itself negated. All loops around are turned, so all variables are.
func mirrored(f api.Form) api.Form {
	f.Terms = each(f.Terms, func(t api.Term) api.Term { return api.Term{Name: t.Name, Coef: -t.Coef} })
	return f
}

// opposite is a bound, mirrored and negated: what is rounded up is then rounded down. Its terms are negated twice.
func opposite(b api.Bound) api.Bound {
	b.Form.Const = -b.Form.Const
	return b
}

// shared is the statements that take the number of the cell that a statement sets, and share it out to those that it reads.
func shared(s api.Step) []api.Step {
	cell := reformed(read(s.Array, s.Subs), mirrored)
	held := read(bag, []api.Form{{}})
	out := []api.Step{
		set(s.Name+"_t", held, cell),
		set(s.Name+"_z", cell, number(0)),
	}
	for i, x := range sharesOf(reformed(simple(s.Expr), mirrored), number(1), false) {
		more := joined(api.OpAdd, x.cell, joined(api.OpMul, x.factor, held))
		out = append(out, set(s.Name+"_"+strconv.Itoa(i), x.cell, more))
	}
	return out
}

// share is a read of an expression, and what it is multiplied by.
type share struct{ cell, factor api.Expr }

// sharesOf are the reads of a simple linear expression, from left to right, if it is multiplied by a factor, and subtracted or not.
func sharesOf(x, factor api.Expr, minus bool) []share {
	switch x.Op {
	case api.OpNumber, api.OpForm:
		return nil
	case api.OpRead:
		if minus {
			factor = joined(api.OpSub, number(0), factor)
		}
		return []share{{x, factor}}
	}
	a, b := x.Args[0], x.Args[1]
	ofA, ofB := factor, factor
	if x.Op == api.OpMul {
		ofA, ofB = joined(api.OpMul, factor, b), joined(api.OpMul, factor, a)
	}
	return append(sharesOf(a, ofA, minus), sharesOf(b, ofB, minus != (x.Op == api.OpSub))...)
}
