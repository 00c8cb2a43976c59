package run

import (
	"warpbeam/api"
)

// form is an affine form of the values of the loops around it.
type form struct {
	number int
	terms  []term
}

// term is coef times the value of a loop; the outermost one is 0.
type term struct{ loop, coef int }

func (f form) value(around []int) int {
	n := f.number
	for _, t := range f.terms {
		n += t.coef * around[t.loop]
	}
	return n
}

type bound struct {
	form form
	div  int
}

func (b bound) up(around []int) int { return -floor(-b.form.value(around), b.div) }

func (b bound) down(around []int) int { return floor(b.form.value(around), b.div) }

// floor is a quotient, rounded down; b is above 0.
func floor(a, b int) int {
	if a%b < 0 {
		return a/b - 1
	}
	return a / b
}

// modulo is a number as a value of a cell.
func modulo(n int) int {
	return n - floor(n, api.Prime)*api.Prime
}

type step struct {
	kind      int
	low, high []bound
	conds     []form
	body      []step
	statement int // its number
}

// span is the first and the last value of a loop.
func (s step) span(around []int) (int, int) {
	low, high := s.low[0].up(around), s.high[0].down(around)
	for _, b := range s.low[1:] {
		low = max(low, b.up(around))
	}
	for _, b := range s.high[1:] {
		high = min(high, b.down(around))
	}
	return low, high
}

// holds reports whether all conditions do.
func (s step) holds(around []int) bool {
	for _, f := range s.conds {
		if f.value(around) < 0 {
			return false
		}
	}
	return true
}

// statement has the places that it reads, in their order, then the one that it sets, and the operations of its expression.
type statement struct {
	name   string
	places []place
	work   []operation
}

// place is a cell of an array (its number).
type place struct {
	array int
	subs  []form
}

// operation puts a value on a pile, or takes two off it and puts what they make.
type operation struct {
	op     int
	number int
	form   form
}

// plan is a checked program, in which variables, arrays and statements are numbers, so that a run need not look up names.
type plan struct {
	layout
	loops      map[string]int // how many loops are around each one that is around
	statements []statement
}

func (p *plan) steps(l []api.Step) []step { return each(l, p.step) }

func (p *plan) step(s api.Step) step {
	switch s.Kind {
	case api.StepLoop:
		low, high := each(s.Low, p.bound), each(s.High, p.bound)
		deep := len(p.loops)
		p.loops[s.Name] = deep
		body := p.steps(s.Body)
		delete(p.loops, s.Name)
		return step{kind: s.Kind, low: low, high: high, body: body}
	case api.StepIf:
		return step{kind: s.Kind, conds: each(s.Conds, p.form), body: p.steps(s.Body)}
	}
	p.statements = append(p.statements, p.statement(s))
	return step{kind: s.Kind, statement: len(p.statements) - 1}
}

func (p *plan) bound(x api.Bound) bound { return bound{form: p.form(x.Form), div: x.Div} }

func (p *plan) form(f api.Form) form {
	return form{number: f.Const, terms: each(f.Terms, func(t api.Term) term { return term{loop: p.loops[t.Name], coef: t.Coef} })}
}

func (p *plan) statement(s api.Step) statement {
	x := statement{name: s.Name}
	p.add(&x, s.Expr)
	x.places = append(x.places, p.place(s.Array, s.Subs))
	return x
}

// add adds the operations and places of an expression, those of its Args first.
func (p *plan) add(s *statement, x api.Expr) {
	for _, y := range x.Args {
		p.add(s, y)
	}
	if x.Op == api.OpRead {
		s.places = append(s.places, p.place(x.Array, x.Subs))
	}
	s.work = append(s.work, operation{op: x.Op, number: x.N, form: p.form(x.Form)})
}

func (p *plan) place(array string, subs []api.Form) place {
	return place{array: p.numbers[array], subs: each(subs, p.form)}
}

// each is a list of what is made of each element.
func each[A, B any](l []A, change func(A) B) []B {
	var out []B
	for _, x := range l {
		out = append(out, change(x))
	}
	return out
}
