package affine

import (
	"slices"

	"warpbeam/api"
	"warpbeam/nest"
)

// none is where a variable would stand, if there is no such one.
const none = -1

// CheckSet says what is wrong with a set.
func CheckSet(s api.Set) api.Errno {
	if len(s.Sides) > api.MaxVars {
		return api.ErrLarge
	}
	for i, side := range s.Sides {
		switch {
		case !isName(side.Name):
			return api.ErrName
		case placeOf(side.Name, s.Sides[:i]) != none:
			return api.ErrTwice
		case !isNear(side):
			return api.ErrArg
		}
	}
	if len(s.Conds) > api.MaxConds {
		return api.ErrLarge
	}
	for _, f := range s.Conds {
		if e := checkForm(f, s.Sides); e != api.OK {
			return e
		}
	}
	if isLarge(s.Sides) {
		return api.ErrFull
	}
	return api.OK
}

// checkForm says what is wrong with a form whose variables have to be among those of sides.
func checkForm(f api.Form, sides []api.Side) api.Errno {
	if e := nest.CheckForm(f); e != api.OK {
		return e
	}
	for _, t := range f.Terms {
		if placeOf(t.Name, sides) == none {
			return api.ErrRule
		}
	}
	return api.OK
}

// checkName says what is wrong with the name of a variable that has to be among those of sides.
func checkName(name string, sides []api.Side) api.Errno {
	if !isName(name) {
		return api.ErrName
	}
	if placeOf(name, sides) == none {
		return api.ErrNone
	}
	return api.OK
}

// checkNames says what is wrong with a list of variables.
func checkNames(names []string, sides []api.Side) api.Errno {
	if len(names) > api.MaxVars {
		return api.ErrLarge
	}
	for i, name := range names {
		if e := checkName(name, sides); e != api.OK {
			return e
		}
		if slices.Contains(names[:i], name) {
			return api.ErrTwice
		}
	}
	return api.OK
}

// isName reports whether a string can be a variable.
func isName(s string) bool { return nest.CheckForm(variable(s)) == api.OK }

// variable is a variable as a form.
func variable(name string) api.Form {
	return api.Form{Terms: []api.Term{{Name: name, Coef: 1}}}
}

// placeOf is the number of the side of a variable, or none.
func placeOf(name string, sides []api.Side) int {
	return slices.IndexFunc(sides, func(s api.Side) bool { return s.Name == name })
}

// isNear reports whether the numbers of a side are within their limits.
func isNear(s api.Side) bool {
	return min(s.Low, s.High) >= -api.MaxConst && max(s.Low, s.High) <= api.MaxConst
}

// isEmpty reports whether a box has no points.
func isEmpty(sides []api.Side) bool {
	return slices.ContainsFunc(sides, func(s api.Side) bool { return s.Low > s.High })
}

// isLarge reports whether a box has more than MaxBox points.
func isLarge(sides []api.Side) bool {
	if isEmpty(sides) {
		return false
	}
	many := 1
	for _, s := range sides {
		many *= s.High - s.Low + 1
		// Asked at each side, as the product of all could be too great for an int.
		if many > api.MaxBox {
			return true
		}
	}
	return false
}
