package nest

import (
	"slices"
	"strings"

	"warpbeam/api"
)

// maxRenames is how many names Renamed replaces at most.
const maxRenames = 100

// Renamed replaces names of arrays, loops and statements, all at once.
func Renamed(p api.Program, names []api.Pair) (api.Program, api.Errno) {
	if e := Check(p); e != api.OK {
		return api.Program{}, e
	}
	if len(names) > maxRenames {
		return api.Program{}, api.ErrLarge
	}
	known := namesOf(p)
	r := renaming{}
	for _, x := range names {
		_, twice := r[x.Name]
		switch {
		case !isName(x.Name) || !isName(x.Value):
			return api.Program{}, api.ErrName
		case !known[x.Name]:
			return api.Program{}, api.ErrNone
		case twice:
			return api.Program{}, api.ErrTwice
		}
		r[x.Name] = x.Value
	}
	q := api.Program{Arrays: each(p.Arrays, r.array), Steps: each(p.Steps, r.step)}
	if e := Check(q); e != api.OK {
		return api.Program{}, e
	}
	return q, api.OK
}

// namesOf are the names that something in a program has.
func namesOf(p api.Program) map[string]bool {
	known := map[string]bool{}
	for _, a := range p.Arrays {
		known[a.Key] = true
	}
	walk(p.Steps, nil, func(s api.Step, _ []api.Step) {
		if s.Kind != api.StepIf {
			known[s.Name] = true
		}
	})
	return known
}

// renaming is the new names by the old ones. What it makes shares no memory with what it was made of, so one without names just copies.
type renaming map[string]string

func (r renaming) name(s string) string {
	if by, found := r[s]; found {
		return by
	}
	return s
}

func (r renaming) array(a api.Array) api.Array {
	return api.Array{Key: r.name(a.Key), Sizes: each(a.Sizes, func(n int) int { return n })}
}

func (r renaming) step(s api.Step) api.Step {
	return api.Step{
		Kind:  s.Kind,
		Name:  r.name(s.Name),
		Low:   each(s.Low, r.bound),
		High:  each(s.High, r.bound),
		Conds: each(s.Conds, r.form),
		Body:  each(s.Body, r.step),
		Array: r.name(s.Array),
		Subs:  each(s.Subs, r.form),
		Expr:  r.expr(s.Expr),
	}
}

func (r renaming) bound(b api.Bound) api.Bound {
	return api.Bound{Form: r.form(b.Form), Div: b.Div}
}

// form puts the terms in order again, as new names can have another one.
func (r renaming) form(f api.Form) api.Form {
	terms := each(f.Terms, func(t api.Term) api.Term { return api.Term{Name: r.name(t.Name), Coef: t.Coef} })
	slices.SortFunc(terms, func(a, b api.Term) int { return strings.Compare(a.Name, b.Name) })
	return api.Form{Const: f.Const, Terms: terms}
}

func (r renaming) expr(x api.Expr) api.Expr {
	return api.Expr{
		Op:    x.Op,
		N:     x.N,
		Form:  r.form(x.Form),
		Array: r.name(x.Array),
		Subs:  each(x.Subs, r.form),
		Args:  each(x.Args, r.expr),
	}
}

// each is a new list of what is made of each element; nil without elements.
func each[A, B any](l []A, change func(A) B) []B {
	var out []B
	for _, x := range l {
		out = append(out, change(x))
	}
	return out
}
