package affine

import (
	"slices"

	"warpbeam/api"
)

// Meet is the set with the points of both.
func Meet(a, b api.Set) (api.Set, api.Errno) {
	x, y, e := spacesOf(a, b)
	if e != api.OK {
		return api.Set{}, e
	}
	m := space{conds: slices.Concat(x.conds, y.conds)}
	for i, s := range x.sides {
		t := y.sides[i]
		m.sides = append(m.sides, api.Side{Name: s.Name, Low: max(s.Low, t.Low), High: min(s.High, t.High)})
	}
	return m.set()
}

// Tight changes conditions so that no numbers are greater than they must be.
func Tight(s api.Set) (api.Set, api.Errno) {
	a, e := spaceOf(s)
	if e != api.OK {
		return api.Set{}, e
	}
	a.conds = tight(a.conds)
	return a.set()
}

// Shadow leaves a variable out.
func Shadow(s api.Set, name string) (api.Set, api.Errno) {
	a, at, e := spaceAndPlace(s, name)
	if e != api.OK {
		return api.Set{}, e
	}
	b := a.without(at, eliminated(a.withEnds(at), at))
	b.conds = tight(b.conds)
	return b.set()
}

// Mapped replaces a variable by a form.
func Mapped(s api.Set, name string, by api.Form) (api.Set, api.Errno) {
	a, at, e := spaceAndPlace(s, name)
	if e != api.OK {
		return api.Set{}, e
	}
	if e := checkForm(by, a.without(at, nil).sides); e != api.OK {
		return api.Set{}, e
	}
	put := rowOf(by, a.sides)
	var conds []row
	for _, r := range a.withEnds(at) {
		conds = append(conds, sum(r, 1, put, r.coefs[at]))
	}
	return a.without(at, conds).set()
}

// spaceAndPlace is a set, and the number of a variable of it.
func spaceAndPlace(s api.Set, name string) (space, int, api.Errno) {
	a, e := spaceOf(s)
	if e != api.OK {
		return space{}, 0, e
	}
	if e := checkName(name, a.sides); e != api.OK {
		return space{}, 0, e
	}
	return a, placeOf(name, a.sides), api.OK
}

// withEnds is the conditions, ahead of them the ends of a side as conditions.
func (a space) withEnds(at int) []row {
	low := row{number: -a.sides[at].Low, coefs: make([]int, len(a.sides))}
	high := row{number: a.sides[at].High, coefs: make([]int, len(a.sides))}
	low.coefs[at], high.coefs[at] = 1, -1
	return append([]row{low, high}, a.conds...)
}

// without is a space that has lost a variable, with other conditions, which lose it too.
func (a space) without(at int, conds []row) space {
	b := space{sides: slices.Concat(a.sides[:at], a.sides[at+1:])}
	for _, r := range conds {
		b.conds = append(b.conds, r.without(at))
	}
	return b
}

// eliminated is what conditions say of all variables but one: those that have not this one, and those that are made of one that gives it a least and of one that gives it a greatest value.
func eliminated(conds []row, at int) []row {
	var stay, least, most []row
	for _, r := range conds {
		switch {
		case r.coefs[at] > 0:
			least = append(least, r)
		case r.coefs[at] < 0:
			most = append(most, r)
		default:
			stay = append(stay, r)
		}
	}
	for _, r := range least {
		for _, q := range most {
			stay = append(stay, sum(r, -q.coefs[at], q, r.coefs[at]))
		}
	}
	return stay
}

// tight is the conditions divided, without those that are always met, and of those that differ just in the number the narrowest one.
func tight(conds []row) []row {
	var l []row
	for _, r := range conds {
		r = r.divided()
		if r.length() == 0 && r.number >= 0 {
			continue
		}
		at := slices.IndexFunc(l, func(q row) bool { return slices.Equal(q.coefs, r.coefs) })
		if at < 0 {
			l = append(l, r)
		} else {
			l[at].number = min(l[at].number, r.number)
		}
	}
	return l
}
