package nest

import (
	"strconv"
	"strings"

	"warpbeam/api"
)

// FormText writes a form.
func FormText(f api.Form) (string, api.Errno) {
	if e := CheckForm(f); e != api.OK {
		return "", e
	}
	var w writer
	w.form(f)
	return w.String(), api.OK
}

// Text writes a program.
func Text(p api.Program) (string, api.Errno) {
	if e := Check(p); e != api.OK {
		return "", e
	}
	var w writer
	for _, a := range p.Arrays {
		w.array(a)
	}
	w.steps(p.Steps, "")
	if w.full() {
		return "", api.ErrLarge
	}
	return w.String(), api.OK
}

// writer writes the parts of a program. Once the text is too long it leaves out steps and expressions, so that a long program costs no more than a short one.
type writer struct {
	strings.Builder
}

func (w *writer) full() bool { return w.Len() > api.MaxText }

// words writes strings one behind the other.
func (w *writer) words(l ...string) {
	for _, s := range l {
		w.WriteString(s)
	}
}

func (w *writer) number(n int) { w.words(strconv.Itoa(n)) }

func (w *writer) array(a api.Array) {
	w.words("array ", a.Key, "[")
	list(w, a.Sizes, w.number)
	w.words("];\n")
}

// steps writes steps with a margin ahead of each line.
func (w *writer) steps(l []api.Step, margin string) {
	for _, s := range l {
		if w.full() {
			return
		}
		w.words(margin)
		w.step(s, margin)
	}
}

func (w *writer) step(s api.Step, margin string) {
	switch s.Kind {
	case api.StepLoop:
		w.words("for ", s.Name, " = ")
		w.bounds("max", s.Low)
		w.words(" .. ")
		w.bounds("min", s.High)
		w.body(s.Body, margin)
	case api.StepIf:
		w.words("if ")
		list(w, s.Conds, func(f api.Form) {
			w.form(f)
			w.words(" >= 0")
		})
		w.body(s.Body, margin)
	case api.StepSet:
		w.words(s.Name, ": ")
		w.place(s.Array, s.Subs)
		w.words(" = ")
		w.expr(s.Expr)
		w.words(";\n")
	}
}

func (w *writer) body(l []api.Step, margin string) {
	w.words(" {\n")
	w.steps(l, margin+"  ")
	w.words(margin, "}\n")
}

// bounds writes one bound by itself, and several ones with the word that says which of them counts.
func (w *writer) bounds(word string, l []api.Bound) {
	if len(l) == 1 {
		w.bound(l[0])
		return
	}
	w.words(word, "(")
	list(w, l, w.bound)
	w.words(")")
}

func (w *writer) bound(b api.Bound) {
	if b.Div == 1 {
		w.form(b.Form)
		return
	}
	w.words("(")
	w.form(b.Form)
	w.words(")/")
	w.number(b.Div)
}

func (w *writer) place(array string, subs []api.Form) {
	w.words(array, "[")
	list(w, subs, w.form)
	w.words("]")
}

func (w *writer) form(f api.Form) {
	for i, t := range f.Terms {
		size := w.sign(t.Coef, i == 0)
		if size != 1 {
			w.number(size)
			w.words("*")
		}
		w.words(t.Name)
	}
	if f.Const != 0 || len(f.Terms) == 0 {
		w.number(w.sign(f.Const, len(f.Terms) == 0))
	}
}

// sign writes what stands ahead of a term, and returns the number without its sign.
func (w *writer) sign(n int, leads bool) int {
	switch {
	case leads && n < 0:
		w.words("-")
	case !leads && n < 0:
		w.words(" - ")
	case !leads:
		w.words(" + ")
	}
	return max(n, -n)
}

func (w *writer) expr(x api.Expr) {
	if w.full() {
		return
	}
	switch x.Op {
	case api.OpNumber:
		w.number(x.N)
	case api.OpForm:
		w.words("<")
		w.form(x.Form)
		w.words(">")
	case api.OpRead:
		w.place(x.Array, x.Subs)
	case api.OpAdd:
		w.pair(x, " + ")
	case api.OpSub:
		w.pair(x, " - ")
	case api.OpMul:
		w.pair(x, " * ")
	}
}

// pair writes both Args. The second one needs parentheses also at the same rank, as operators of one rank belong to the left.
func (w *writer) pair(x api.Expr, between string) {
	left, right := x.Args[0], x.Args[1]
	w.arg(left, rank(left.Op) < rank(x.Op))
	w.words(between)
	w.arg(right, rank(right.Op) <= rank(x.Op))
}

func (w *writer) arg(x api.Expr, inside bool) {
	if !inside {
		w.expr(x)
		return
	}
	w.words("(")
	w.expr(x)
	w.words(")")
}

// rank tells how closely an operator holds its Args; what has none holds closest.
func rank(op int) int {
	switch op {
	case api.OpAdd, api.OpSub:
		return 1
	case api.OpMul:
		return 2
	}
	return 3
}

// list writes elements with commas between.
func list[T any](w *writer, l []T, one func(T)) {
	for i, x := range l {
		if i > 0 {
			w.words(", ")
		}
		one(x)
	}
}
