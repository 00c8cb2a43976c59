package shape

import (
	"maps"
	"slices"

	"warpbeam/api"
)

// Forms that are made here can be beyond the limits, while they are added up and at the end: the check of the whole result says so in its own order. So nest.Sum and nest.Put, which refuse such forms, cannot make them.

// number is a form without a variable.
func number(n int) api.Form { return api.Form{Const: n} }

// times is coef times a variable.
func times(coef int, name string) api.Form {
	if coef == 0 {
		return api.Form{}
	}
	return api.Form{Terms: []api.Term{{Name: name, Coef: coef}}}
}

// coefOf is how often a form has a variable.
func coefOf(f api.Form, name string) int {
	for _, t := range f.Terms {
		if t.Name == name {
			return t.Coef
		}
	}
	return 0
}

// sum is a form and factor times another one.
func sum(f api.Form, factor int, g api.Form) api.Form {
	coefs := map[string]int{}
	for _, t := range f.Terms {
		coefs[t.Name] = t.Coef
	}
	for _, t := range g.Terms {
		coefs[t.Name] += factor * t.Coef
	}
	s := number(f.Const + factor*g.Const)
	for _, name := range slices.Sorted(maps.Keys(coefs)) {
		s.Terms = append(s.Terms, times(coefs[name], name).Terms...)
	}
	return s
}

// put is a form in which a variable is replaced by another form.
func put(f api.Form, name string, by api.Form) api.Form {
	coef := coefOf(f, name)
	if coef == 0 {
		return f
	}
	return sum(sum(f, -1, times(coef, name)), coef, by)
}

// value is the value of a form, if the loops with some names have some values (there can be more values than names).
func value(f api.Form, names []string, values []int) int {
	n := f.Const
	for _, t := range f.Terms {
		n += t.Coef * values[slices.Index(names, t.Name)]
	}
	return n
}

// raised are bounds with a form added.
func raised(l []api.Bound, by api.Form) []api.Bound {
	return listOf(l, func(b api.Bound) api.Bound { return api.Bound{Form: sum(b.Form, b.Div, by), Div: b.Div} })
}

// replaced is steps in which a variable is replaced by a form.
func replaced(l []api.Step, name string, by api.Form) []api.Step {
	return reformed(l, func(f api.Form) api.Form { return put(f, name, by) })
}

// reformed is steps in which all forms are changed.
func reformed(l []api.Step, change func(api.Form) api.Form) []api.Step {
	bound := func(b api.Bound) api.Bound { return api.Bound{Form: change(b.Form), Div: b.Div} }
	return listOf(l, func(s api.Step) api.Step {
		s.Low, s.High = listOf(s.Low, bound), listOf(s.High, bound)
		s.Conds, s.Subs = listOf(s.Conds, change), listOf(s.Subs, change)
		s.Expr = reformedExpr(s.Expr, change)
		s.Body = reformed(s.Body, change)
		return s
	})
}

func reformedExpr(x api.Expr, change func(api.Form) api.Form) api.Expr {
	x.Form = change(x.Form)
	x.Subs = listOf(x.Subs, change)
	x.Args = listOf(x.Args, func(y api.Expr) api.Expr { return reformedExpr(y, change) })
	return x
}

// listOf is a new list of what is made of each element.
func listOf[A, B any](l []A, change func(A) B) []B {
	var out []B
	for _, x := range l {
		out = append(out, change(x))
	}
	return out
}

// floor is a quotient, rounded down; b is above 0.
func floor(a, b int) int {
	if a%b < 0 {
		return a/b - 1
	}
	return a / b
}
