package affine

import (
	"slices"

	"warpbeam/api"
	"warpbeam/nest"
)

// Domain is the set of the instances of a statement.
func Domain(p api.Program, key string) (api.Set, api.Errno) {
	_, around, e := nest.Statement(p, key)
	if e != api.OK {
		return api.Set{}, e
	}
	var d api.Set
	for _, s := range around {
		if s.Kind == api.StepIf {
			d.Conds = append(d.Conds, s.Conds...)
			continue
		}
		side := sideOf(s, d.Sides)
		if !isNear(side) {
			return api.Set{}, api.ErrArg
		}
		d.Sides = append(d.Sides, side)
		d.Conds = append(d.Conds, condsOf(s)...)
	}
	if e := CheckSet(d); e != api.OK {
		return api.Set{}, e
	}
	return d, api.OK
}

// condsOf is the bounds of a loop as conditions. The sums have no errors: a Div is within the limit of a coefficient, and the form of a bound has room for one more variable, as no more than MaxDepth loops are around one another.
func condsOf(s api.Step) []api.Form {
	var l []api.Form
	x := variable(s.Name)
	for _, b := range s.Low {
		f, _ := nest.Sum(x, b.Div, b.Form, -1)
		l = append(l, f)
	}
	for _, b := range s.High {
		f, _ := nest.Sum(b.Form, 1, x, -b.Div)
		l = append(l, f)
	}
	return l
}

// sideOf is the side of a loop, if the variables in its bounds are anywhere within their sides.
func sideOf(s api.Step, sides []api.Side) api.Side {
	var low, high []int
	for _, b := range s.Low {
		low = append(low, -floor(-extreme(b.Form, sides, lesser), b.Div))
	}
	for _, b := range s.High {
		high = append(high, floor(extreme(b.Form, sides, greater), b.Div))
	}
	return api.Side{Name: s.Name, Low: slices.Max(low), High: slices.Min(high)}
}

// extreme is the least or the greatest value of a form within sides, also within empty ones: pick says which.
func extreme(f api.Form, sides []api.Side, pick func(a, b int) int) int {
	n := f.Const
	for _, t := range f.Terms {
		s := sides[placeOf(t.Name, sides)]
		n += pick(t.Coef*s.Low, t.Coef*s.High)
	}
	return n
}

func lesser(a, b int) int { return min(a, b) }

func greater(a, b int) int { return max(a, b) }
