package nest

import (
	"maps"
	"slices"
	"strings"

	"warpbeam/api"
)

// CheckForm says what is wrong with a form.
func CheckForm(f api.Form) api.Errno {
	if !within(f.Const, api.MaxConst) {
		return api.ErrArg
	}
	if len(f.Terms) > api.MaxTerms {
		return api.ErrLarge
	}
	for i, t := range f.Terms {
		switch {
		case !isName(t.Name):
			return api.ErrName
		case t.Coef == 0 || !within(t.Coef, api.MaxCoef):
			return api.ErrArg
		case i > 0 && t.Name <= f.Terms[i-1].Name:
			return api.ErrOrder
		}
	}
	return api.OK
}

// Value is the value of a form; variables that are not in x are 0.
func Value(f api.Form, x api.Point) (int, api.Errno) {
	if e := CheckForm(f); e != api.OK {
		return 0, e
	}
	if e := checkPoint(x); e != api.OK {
		return 0, e
	}
	n := f.Const
	for _, t := range f.Terms {
		at, found := slices.BinarySearchFunc(x, t.Name, compareSlot)
		if found {
			n += t.Coef * x[at].Value
		}
	}
	return n, api.OK
}

// Sum adds a times one form and b times another one.
func Sum(f api.Form, a int, g api.Form, b int) (api.Form, api.Errno) {
	if e := first([]api.Form{f, g}, CheckForm); e != api.OK {
		return api.Form{}, e
	}
	if !within(a, api.MaxCoef) || !within(b, api.MaxCoef) {
		return api.Form{}, api.ErrArg
	}
	t := newTotal()
	t.add(f, a)
	t.add(g, b)
	return t.checked()
}

// Put replaces a variable of a form by another form.
func Put(f api.Form, name string, by api.Form) (api.Form, api.Errno) {
	if e := CheckForm(f); e != api.OK {
		return api.Form{}, e
	}
	if !isName(name) {
		return api.Form{}, api.ErrName
	}
	if e := CheckForm(by); e != api.OK {
		return api.Form{}, e
	}
	t := newTotal()
	t.add(f, 1)
	times := t.coefs[name]
	// The variable goes before the other form comes, which can have it, too.
	delete(t.coefs, name)
	t.add(by, times)
	return t.checked()
}

// checkPoint says what is wrong with the values of variables.
func checkPoint(x api.Point) api.Errno {
	for i, s := range x {
		switch {
		case !isName(s.Name):
			return api.ErrName
		case !within(s.Value, api.MaxConst):
			return api.ErrArg
		case i > 0 && s.Name <= x[i-1].Name:
			return api.ErrOrder
		}
	}
	return api.OK
}

func compareSlot(s api.Slot, name string) int { return strings.Compare(s.Name, name) }

// total is a form while it is added up.
type total struct {
	number int
	coefs  map[string]int
}

func newTotal() *total { return &total{coefs: map[string]int{}} }

func (t *total) add(f api.Form, times int) {
	t.number += times * f.Const
	for _, x := range f.Terms {
		t.coefs[x.Name] += times * x.Coef
	}
}

// form is what was added up; terms that became 0 are no terms of it.
func (t *total) form() api.Form {
	f := api.Form{Const: t.number}
	for _, name := range slices.Sorted(maps.Keys(t.coefs)) {
		if t.coefs[name] != 0 {
			f.Terms = append(f.Terms, api.Term{Name: name, Coef: t.coefs[name]})
		}
	}
	return f
}

// checked is the form, if it is one within the limits.
func (t *total) checked() (api.Form, api.Errno) {
	f := t.form()
	if e := CheckForm(f); e != api.OK {
		return api.Form{}, e
	}
	return f, api.OK
}

// within reports whether a number is from -most to most.
func within(n, most int) bool { return -most <= n && n <= most }

// first is the error of the first element that has one.
func first[T any](l []T, check func(T) api.Errno) api.Errno {
	for _, x := range l {
		if e := check(x); e != api.OK {
			return e
		}
	}
	return api.OK
}
