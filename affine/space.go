package affine

import (
	"slices"

	"warpbeam/api"
)

// maxList is how many numbers a list of values has at most.
const maxList = max(api.MaxVars, api.MaxTimes)

// space is a checked set; variables are numbers in it: the places of their sides.
type space struct {
	sides []api.Side
	conds []row
}

// spaceOf is a set as a space, or its error.
func spaceOf(s api.Set) (space, api.Errno) {
	if e := CheckSet(s); e != api.OK {
		return space{}, e
	}
	a := space{sides: s.Sides}
	for _, f := range s.Conds {
		a.conds = append(a.conds, rowOf(f, s.Sides))
	}
	return a, api.OK
}

// spacesOf are two sets of the same variables.
func spacesOf(a, b api.Set) (space, space, api.Errno) {
	x, e := spaceOf(a)
	if e != api.OK {
		return space{}, space{}, e
	}
	y, e := spaceOf(b)
	if e != api.OK {
		return space{}, space{}, e
	}
	if !slices.EqualFunc(x.sides, y.sides, func(s, t api.Side) bool { return s.Name == t.Name }) {
		return space{}, space{}, api.ErrForm
	}
	return x, y, api.OK
}

// spaceAndRow is a set, and a form of its variables.
func spaceAndRow(s api.Set, f api.Form) (space, row, api.Errno) {
	a, e := spaceOf(s)
	if e != api.OK {
		return space{}, row{}, e
	}
	if e := checkForm(f, a.sides); e != api.OK {
		return space{}, row{}, e
	}
	return a, rowOf(f, a.sides), api.OK
}

// set is a space as a set, in new memory, or the error of this set.
func (a space) set() (api.Set, api.Errno) {
	s := api.Set{Sides: slices.Clone(a.sides)}
	for _, r := range a.conds {
		s.Conds = append(s.Conds, r.form(a.sides))
	}
	if e := CheckSet(s); e != api.OK {
		return api.Set{}, e
	}
	return s, api.OK
}

// has reports whether a list of so many numbers as there are sides is a point.
func (a space) has(x []int) bool {
	// Numbers beyond the sides could be too great for the conditions.
	for i, s := range a.sides {
		if x[i] < s.Low || x[i] > s.High {
			return false
		}
	}
	return areMet(a.conds, x)
}

// areMet reports whether all conditions are, if the variables behind the list are 0.
func areMet(conds []row, x []int) bool {
	for _, r := range conds {
		if r.value(x) < 0 {
			return false
		}
	}
	return true
}

func (a space) count() int {
	many := 0
	a.each(func([]int) bool {
		many++
		return true
	})
	return many
}

// each visits the points in order as long as visit returns true, and reports whether it always did. A list that is visited is good only until visit returns.
func (a space) each(visit func(x []int) bool) bool {
	// The other sides of an empty box can be too long to go through.
	if isEmpty(a.sides) {
		return true
	}
	// Each condition is asked as soon as it is decided: when so many variables have values.
	decided := make([][]row, len(a.sides)+1)
	for _, r := range a.conds {
		n := r.length()
		decided[n] = append(decided[n], r)
	}
	var from func(x []int) bool
	from = func(x []int) bool {
		n := len(x)
		if !areMet(decided[n], x) {
			return true
		}
		if n == len(a.sides) {
			return visit(x)
		}
		for next := a.sides[n].Low; next <= a.sides[n].High; next++ {
			if !from(append(x, next)) {
				return false
			}
		}
		return true
	}
	return from(make([]int, 0, len(a.sides)))
}

// lists visits the different lists of values that rows have at the points, in new memory, as each does the points; in the order in which they come.
func (a space) lists(rows []row, visit func(l []int) bool) bool {
	seen := map[[maxList]int]bool{}
	return a.each(func(x []int) bool {
		var l [maxList]int
		for i, r := range rows {
			l[i] = r.value(x)
		}
		if seen[l] {
			return true
		}
		seen[l] = true
		return visit(slices.Clone(l[:len(rows)]))
	})
}
