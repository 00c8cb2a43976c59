package nest

import (
	"warpbeam/api"
)

// ReadForm reads a form; the int is where a text is wrong.
func ReadForm(text string) (api.Form, int, api.Errno) {
	return readWhole(text, (*reader).form, CheckForm)
}

// Read reads a program; the int is where a text is wrong.
func Read(text string) (api.Program, int, api.Errno) {
	return readWhole(text, (*reader).program, Check)
}

// readWhole reads a text that is one thing, and checks this.
func readWhole[T any](text string, part func(*reader) T, check func(T) api.Errno) (T, int, api.Errno) {
	var none T
	if len(text) > api.MaxText {
		return none, 0, api.ErrLarge
	}
	r := newReader(text)
	x := part(r)
	r.end()
	if r.failed {
		return none, r.wrong, api.ErrSyntax
	}
	if e := check(x); e != api.OK {
		return none, 0, e
	}
	return x, 0, api.OK
}

func (r *reader) program() api.Program {
	var p api.Program
	for r.is("array") {
		p.Arrays = append(p.Arrays, r.array())
	}
	p.Steps = r.steps()
	return p
}

func (r *reader) array() api.Array {
	var a api.Array
	r.expect("array")
	a.Key = r.name()
	r.expect("[")
	a.Sizes = several(r, r.number)
	r.expect("]")
	r.expect(";")
	return a
}

func (r *reader) steps() []api.Step {
	var l []api.Step
	for {
		switch {
		case r.is("for"):
			l = append(l, r.loop())
		case r.is("if"):
			l = append(l, r.condition())
		case r.kind == wordName:
			l = append(l, r.statement())
		default:
			return l
		}
	}
}

func (r *reader) loop() api.Step {
	s := api.Step{Kind: api.StepLoop}
	r.expect("for")
	s.Name = r.name()
	r.expect("=")
	s.Low = r.bounds("max")
	r.expect("..")
	s.High = r.bounds("min")
	s.Body = r.body()
	return s
}

func (r *reader) condition() api.Step {
	s := api.Step{Kind: api.StepIf}
	r.expect("if")
	s.Conds = several(r, r.comparison)
	s.Body = r.body()
	return s
}

func (r *reader) statement() api.Step {
	s := api.Step{Kind: api.StepSet}
	s.Name = r.name()
	r.expect(":")
	s.Array, s.Subs = r.place()
	r.expect("=")
	s.Expr = r.sum()
	r.expect(";")
	return s
}

func (r *reader) body() []api.Step {
	r.expect("{")
	l := r.steps()
	r.expect("}")
	return l
}

// bounds reads one bound, or at least two ones behind a word.
func (r *reader) bounds(word string) []api.Bound {
	if !r.accept(word) {
		return []api.Bound{r.bound()}
	}
	r.expect("(")
	l := []api.Bound{r.bound()}
	r.expect(",")
	l = append(l, several(r, r.bound)...)
	r.expect(")")
	return l
}

func (r *reader) bound() api.Bound {
	b := api.Bound{Div: 1}
	if !r.accept("(") {
		b.Form = r.form()
		return b
	}
	b.Form = r.form()
	r.expect(")")
	r.expect("/")
	b.Div = r.divisor()
	return b
}

// divisor reads a number above 1, as only by such a one a bound is written as divided. How great it can be is up to the checks.
func (r *reader) divisor() int {
	if r.kind == wordNumber && (r.word() == "0" || r.word() == "1") {
		r.fail()
	}
	return r.number()
}

// comparison reads a form that has to be at least 0.
func (r *reader) comparison() api.Form {
	f := r.form()
	r.expect(">=")
	if r.kind == wordNumber && r.word() != "0" {
		r.fail()
	}
	r.number()
	return f
}

func (r *reader) place() (string, []api.Form) {
	array := r.name()
	r.expect("[")
	subs := several(r, r.form)
	r.expect("]")
	return array, subs
}

// form reads terms in any order; a sign stands before each one, but the first one needs none.
func (r *reader) form() api.Form {
	t := newTotal()
	if !r.is("+") && !r.is("-") {
		r.term(t, 1)
	}
	for {
		switch {
		case r.accept("+"):
			r.term(t, 1)
		case r.accept("-"):
			r.term(t, -1)
		default:
			return t.form()
		}
	}
}

// term reads a term, and adds it with its sign.
func (r *reader) term(t *total, sign int) {
	if r.kind == wordName {
		name := r.name()
		t.coefs[name] += sign
		return
	}
	n := sign * r.number()
	if !r.accept("*") {
		t.number += n
		return
	}
	name := r.name()
	t.coefs[name] += n
}

// sum reads an expression.
func (r *reader) sum() api.Expr {
	x := r.product()
	for {
		op := api.OpAdd
		if r.is("-") {
			op = api.OpSub
		}
		if !r.accept("+") && !r.accept("-") {
			return x
		}
		y := r.product()
		x = api.Expr{Op: op, Args: []api.Expr{x, y}}
	}
}

func (r *reader) product() api.Expr {
	x := r.factor()
	for r.accept("*") {
		y := r.factor()
		x = api.Expr{Op: api.OpMul, Args: []api.Expr{x, y}}
	}
	return x
}

func (r *reader) factor() api.Expr {
	switch {
	case r.accept("("):
		x := r.sum()
		r.expect(")")
		return x
	case r.accept("<"):
		f := r.form()
		r.expect(">")
		return api.Expr{Op: api.OpForm, Form: f}
	case r.kind == wordName:
		array, subs := r.place()
		return api.Expr{Op: api.OpRead, Array: array, Subs: subs}
	}
	return api.Expr{Op: api.OpNumber, N: r.number()}
}

// several reads one thing, or more with commas between.
func several[T any](r *reader, one func() T) []T {
	l := []T{one()}
	for r.accept(",") {
		l = append(l, one())
	}
	return l
}
