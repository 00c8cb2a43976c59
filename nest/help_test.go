package nest_test

import (
	"fmt"
	"strings"
	"testing"

	"warpbeam/api"
	"warpbeam/nest"
)

// same compares values as they are printed, as an empty list and a nil one are the same (Z5).
func same(t *testing.T, what string, got, want any) {
	t.Helper()
	if g, w := fmt.Sprintf("%+v", got), fmt.Sprintf("%+v", want); g != w {
		t.Errorf("%s: got %s, want %s", what, short(g), short(w))
	}
}

func short(s string) string {
	if len(s) > 600 {
		return s[:600] + " .."
	}
	return s
}

// program reads a text that has to be right.
func program(t *testing.T, text string) api.Program {
	t.Helper()
	p, at, e := nest.Read(text)
	if e != api.OK || at != 0 {
		t.Fatalf("Read(%q): %d, %v", short(text), at, e)
	}
	return p
}

// written is the text of a program that has to be right.
func written(t *testing.T, p api.Program) string {
	t.Helper()
	s, e := nest.Text(p)
	if e != api.OK {
		t.Fatalf("Text(%+v): %v", p, e)
	}
	return s
}

// form makes a form of a constant, and of names and coefficients by turns.
func form(number int, l ...any) api.Form {
	f := api.Form{Const: number}
	for i := 0; i < len(l); i += 2 {
		f.Terms = append(f.Terms, api.Term{Name: l[i].(string), Coef: l[i+1].(int)})
	}
	return f
}

// terms makes a form with so many terms.
func terms(many int) api.Form {
	var f api.Form
	for i := range many {
		f.Terms = append(f.Terms, api.Term{Name: "v" + string(rune('a'+i)), Coef: 1})
	}
	return f
}

func bound(f api.Form) api.Bound { return api.Bound{Form: f, Div: 1} }

func loop(name string, body ...api.Step) api.Step {
	return api.Step{Kind: api.StepLoop, Name: name, Low: []api.Bound{bound(form(0))}, High: []api.Bound{bound(form(3))}, Body: body}
}

func when(body ...api.Step) api.Step {
	return api.Step{Kind: api.StepIf, Conds: []api.Form{form(0)}, Body: body}
}

// set makes a statement that sets the first cell of the array a.
func set(name string, x api.Expr) api.Step {
	return api.Step{Kind: api.StepSet, Name: name, Array: "a", Subs: []api.Form{form(0)}, Expr: x}
}

func number(n int) api.Expr { return api.Expr{Op: api.OpNumber, N: n} }

func formed(f api.Form) api.Expr { return api.Expr{Op: api.OpForm, Form: f} }

func read(array string, subs ...api.Form) api.Expr {
	return api.Expr{Op: api.OpRead, Array: array, Subs: subs}
}

func both(op int, x, y api.Expr) api.Expr { return api.Expr{Op: op, Args: []api.Expr{x, y}} }

// steps makes a program with the array a of 4 cells.
func steps(l ...api.Step) api.Program {
	return api.Program{Arrays: []api.Array{{Key: "a", Sizes: []int{4}}}, Steps: l}
}

// names that are none, each for a reason of its own.
func noNames() []string {
	return []string{"", "1a", "_a", "A", "aB", "a-b", "a b", "a.b", "é", "aé", "a\n", "a\x00", strings.Repeat("a", api.MaxName+1), "array", "for", "if", "max", "min"}
}

// names that could be taken for none.
func someNames() []string {
	return []string{"a", "z", "a_", "a0", "a9_z", strings.Repeat("a", api.MaxName), "arrays", "form", "iff", "i", "ma", "maxi", "min_", "f", "fo"}
}

// extremes are the ints that are farthest off.
func extremes() []int {
	const most = int(^uint(0) >> 1)
	return []int{most, -most, -most - 1}
}
