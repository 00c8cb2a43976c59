package emit

import (
	"maps"
	"slices"

	"warpbeam/api"
	"warpbeam/nest"
)

// solution is the loops around a statement, as forms of the loops over its times.
type solution map[string]api.Form

// solve solves times for the loops around a statement; false if there is no solution.
func solve(times []api.Form, loops, names []string) (solution, bool) {
	var used [][]int
	var as []api.Form // what the rows that are used are, each one times the loops
	for k, f := range times {
		row := coefsOf(f, loops)
		if !isCombination(row, used) {
			used = append(used, row)
			as = append(as, formOf(-f.Const, map[string]int{names[k]: 1}))
		}
	}
	if len(used) != len(loops) {
		return nil, false
	}
	inverse, found := inverseOf(used)
	if !found {
		return nil, false
	}
	s := solution{}
	for i, loop := range loops {
		s[loop] = combined(inverse[i], as)
	}
	return s, true
}

// coefsOf are the coefficients of some variables in a form.
func coefsOf(f api.Form, names []string) []int {
	coefs := make([]int, len(names))
	for _, t := range f.Terms {
		coefs[slices.Index(names, t.Name)] = t.Coef
	}
	return coefs
}

// formOf is a form with some coefficients, of which those that are 0 are left out.
func formOf(number int, coefs map[string]int) api.Form {
	f := api.Form{Const: number}
	for _, name := range slices.Sorted(maps.Keys(coefs)) {
		if coefs[name] != 0 {
			f.Terms = append(f.Terms, api.Term{Name: name, Coef: coefs[name]})
		}
	}
	return f
}

// combined is the sum of forms, each one times a factor. It can be beyond the limits of a form, so nest.Sum cannot make it.
func combined(factors []int, l []api.Form) api.Form {
	n := 0
	coefs := map[string]int{}
	for i, f := range l {
		n += factors[i] * f.Const
		for _, t := range f.Terms {
			coefs[t.Name] += factors[i] * t.Coef
		}
	}
	return formOf(n, coefs)
}

// putter puts a solution into forms, and keeps the first error of what it makes.
type putter struct {
	by    solution
	wrong api.Errno
}

func (p *putter) check(f api.Form) {
	if p.wrong == api.OK {
		p.wrong = nest.CheckForm(f)
	}
}

// form is a form in which all loops are replaced at once: the new ones can have the names of old ones.
func (p *putter) form(f api.Form) api.Form {
	factors, l := []int{1}, []api.Form{{Const: f.Const}}
	for _, t := range f.Terms {
		factors = append(factors, t.Coef)
		l = append(l, p.by[t.Name])
	}
	g := combined(factors, l)
	p.check(g)
	return g
}

// less is a form in which all loops are replaced, less a new loop.
func (p *putter) less(f api.Form, name string) api.Form {
	g := combined([]int{1, -1}, []api.Form{p.form(f), formOf(0, map[string]int{name: 1})})
	p.check(g)
	return g
}

func (p *putter) forms(l []api.Form) []api.Form {
	var out []api.Form
	for _, f := range l {
		out = append(out, p.form(f))
	}
	return out
}

func (p *putter) expr(x api.Expr) api.Expr {
	x.Form = p.form(x.Form)
	x.Subs = p.forms(x.Subs)
	args := x.Args
	x.Args = nil
	for _, y := range args {
		x.Args = append(x.Args, p.expr(y))
	}
	return x
}
