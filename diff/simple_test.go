package diff_test

import (
	"fmt"
	"slices"
	"strings"
	"testing"

	"warpbeam/api"
	"warpbeam/diff"
)

// simple is the text of what Simple makes of a text.
func simple(t *testing.T, text string) string {
	t.Helper()
	x, e := diff.Simple(expr(t, text))
	if e != api.OK {
		t.Fatal(text, e)
	}
	return written(t, x)
}

// P9.1: each rule, and one after the other.
func TestSimple(t *testing.T) {
	for _, c := range []struct{ text, want string }{
		{"7", "7"},
		{"a[i - 1]", "a[i - 1]"},
		{"b[2*i, j + 3]", "b[2*i, j + 3]"},
		{"<5>", "5"},
		{"<0>", "0"},
		{"<-1>", "1000002"},
		{"<1000000>", "1000000"},
		{"<-1000000>", "3"},
		{"<i - i + 4>", "4"},
		{"<2*i - 3*j + 4>", "<2*i - 3*j + 4>"},
		{"2 + 3", "5"},
		{"2 - 3", "1000002"},
		{"3 - 2", "1"},
		{"2 * 3", "6"},
		{"1000002 + 1", "0"},
		{"1000002 + 1000002", "1000001"},
		{"1000002 * 1000002", "1"},
		{"0 - 1000002", "1"},
		{"1000 * 1001", "997"},
		{"a[0] + 0", "a[0]"},
		{"0 + a[0]", "a[0]"},
		{"a[0] - 0", "a[0]"},
		{"0 - a[0]", "0 - a[0]"},
		{"a[0] * 1", "a[0]"},
		{"1 * a[0]", "a[0]"},
		{"a[0] * 0", "0"},
		{"0 * a[0]", "0"},
		{"<i> + 0", "<i>"},
		{"0 + <i>", "<i>"},
		{"<i> - 0", "<i>"},
		{"<i> * 1", "<i>"},
		{"1 * <i>", "<i>"},
		{"<i> * 0", "0"},
		{"0 * <i>", "0"},
		{"(a[0] + a[1]) * 1 - 0", "a[0] + a[1]"},
		{"(a[0] + a[1]) * 0", "0"},
		// What is not told stays.
		{"a[0] - a[0]", "a[0] - a[0]"},
		{"a[0] + 1", "a[0] + 1"},
		{"1 + a[0]", "1 + a[0]"},
		{"1 - a[0]", "1 - a[0]"},
		{"a[0] - 1", "a[0] - 1"},
		{"2 * a[0]", "2 * a[0]"},
		{"2 * a[0] * 3", "2 * a[0] * 3"},
		{"a[0] + 1 + 2", "a[0] + 1 + 2"},
		{"a[0] - (0 - a[1])", "a[0] - (0 - a[1])"},
		{"<i> - <i>", "<i> - <i>"},
		{"<i> + <j>", "<i> + <j>"},
		{"<i> + 3", "<i> + 3"},
		// What becomes simple within makes more simple around.
		{"1 + 2 + a[0]", "3 + a[0]"},
		{"a[0] + (1 + 2)", "a[0] + 3"},
		{"a[0] * (3 - 2)", "a[0]"},
		{"a[0] + <0>", "a[0]"},
		{"a[0] * <1>", "a[0]"},
		{"<-1> * <-1> * a[0]", "a[0]"},
		{"(a[0] * 0 + 1) * a[1]", "a[1]"},
		{"a[1] - (a[0] * (<i> * 0)) * 5", "a[1]"},
		{"a[0] * 0 - a[1] * 0 - 1", "1000002"},
		{"((0 + (1 * (a[2] - 0))) * 1) * (1 + 0)", "a[2]"},
		{"(0 - a[0] * 0) - (0 - (0 - a[1]))", "0 - (0 - (0 - a[1]))"},
	} {
		same(t, c.text, simple(t, c.text), c.want)
		same(t, c.text, written(t, naiveSimple(expr(t, c.text))), c.want)
	}
}

// P9.1: wherever rules are applied first, the same is left; and what is simple stays.
func TestSimpleIsAsNaive(t *testing.T) {
	g := dice(1)
	sizes := map[string]int{}
	for range 3_000 {
		text := g.expr([]string{"i", "j"}, 2)
		x := expr(t, text)
		y, e := diff.Simple(x)
		same(t, text, []any{y, e}, []any{naiveSimple(x), api.OK})
		z, e := diff.Simple(y)
		same(t, text, []any{z, e}, []any{y, api.OK})
		sizes[fmt.Sprint(y.Op)]++
		if len(y.Args) == 0 && len(x.Args) > 0 {
			sizes["shorter"]++
		}
	}
	for _, what := range []string{"1", "2", "3", "4", "5", "6", "shorter"} {
		if sizes[what] < 50 {
			t.Error("too few", what, sizes)
		}
	}
}

func numberOf(n int) api.Expr { return api.Expr{Op: api.OpNumber, N: n} }

func readOf(key string, subs ...api.Form) api.Expr {
	return api.Expr{Op: api.OpRead, Array: key, Subs: subs}
}

func formOf(f api.Form) api.Expr { return api.Expr{Op: api.OpForm, Form: f} }

func of(op int, args ...api.Expr) api.Expr { return api.Expr{Op: op, Args: args} }

func simpleError(t *testing.T, what string, x api.Expr, want api.Errno) {
	t.Helper()
	y, e := diff.Simple(x)
	same(t, what, e, want)
	if e != api.OK {
		same(t, "result of "+what, y, api.Expr{})
	}
}

// wrongForms are forms with the error that they have.
func wrongForms() map[api.Errno][]api.Form {
	var long []api.Term
	for i := range api.MaxTerms + 1 {
		long = append(long, api.Term{Name: string(rune('a' + i)), Coef: 1})
	}
	return map[api.Errno][]api.Form{
		api.ErrArg:   {{Const: 1_000_001}, {Const: -1_000_001}, {Terms: []api.Term{{Name: "i"}}}, {Terms: []api.Term{{Name: "i", Coef: 1_001}}}},
		api.ErrLarge: {{Terms: long}},
		api.ErrName:  {{Terms: []api.Term{{Name: "for", Coef: 1}}}},
		api.ErrOrder: {{Terms: []api.Term{{Name: "j", Coef: 1}, {Name: "i", Coef: 1}}}, {Terms: []api.Term{{Name: "i", Coef: 1}, {Name: "i", Coef: 1}}}},
	}
}

// P9.1: the errors of an expression, each by itself.
func TestSimpleErrors(t *testing.T) {
	one := api.Form{Const: 1}
	for _, op := range append(outside(api.OpNumber, api.OpMul), 0) {
		simpleError(t, fmt.Sprint("kind ", op), api.Expr{Op: op}, api.ErrKind)
	}
	for _, n := range outside(0, api.Prime-1) {
		simpleError(t, fmt.Sprint("number ", n), numberOf(n), api.ErrArg)
		simpleError(t, fmt.Sprint("number ", n), of(api.OpMul, readOf("a", one), numberOf(n)), api.ErrArg)
	}
	simpleError(t, "greatest number", numberOf(api.Prime-1), api.OK)
	for _, name := range noNames() {
		simpleError(t, "name "+name, readOf(name, one), api.ErrName)
	}
	simpleError(t, "longest name", readOf(strings.Repeat("z", api.MaxName), one), api.OK)
	// There is no program, so any array and any variables will do.
	var terms []api.Term
	for i := range api.MaxTerms {
		terms = append(terms, api.Term{Name: "x" + string(rune('a'+i)), Coef: i - api.MaxTerms})
	}
	simpleError(t, "variables", of(api.OpAdd, formOf(api.Form{Terms: terms}), readOf("x", api.Form{Terms: terms})), api.OK)
	simpleError(t, "a variable like an array", readOf("x", api.Form{Terms: []api.Term{{Name: "x", Coef: 1}}}), api.OK)
	simpleError(t, "one array with two numbers of Subs", of(api.OpAdd, readOf("x", one), readOf("x", one, one)), api.OK)
	simpleError(t, "no Subs", readOf("a"), api.ErrForm)
	simpleError(t, "as many Subs as there can be", readOf("a", one, one, one, one), api.OK)
	simpleError(t, "too many Subs", readOf("a", one, one, one, one, one), api.ErrForm)
	for e, l := range wrongForms() {
		for _, f := range l {
			simpleError(t, "form", formOf(f), e)
			simpleError(t, "first Sub", readOf("a", f, one), e)
			simpleError(t, "last Sub", readOf("a", one, one, one, f), e)
		}
	}
}

// P9.1: fields that an Op does not use have to be zero, and it needs its Args.
func TestSimpleForm(t *testing.T) {
	right := map[int]api.Expr{
		api.OpNumber: numberOf(0),
		api.OpForm:   formOf(api.Form{}),
		api.OpRead:   readOf("a", api.Form{}),
		api.OpAdd:    of(api.OpAdd, numberOf(0), numberOf(0)),
		api.OpSub:    of(api.OpSub, numberOf(0), numberOf(0)),
		api.OpMul:    of(api.OpMul, numberOf(0), numberOf(0)),
	}
	for op, x := range right {
		simpleError(t, fmt.Sprint(op), x, api.OK)
		for what, change := range map[string]func(x *api.Expr){
			"1 N":         func(x *api.Expr) { x.N = 5 },
			"1 N below 0": func(x *api.Expr) { x.N = -5 },
			"2 Const":     func(x *api.Expr) { x.Form.Const = 5 },
			"2 Terms":     func(x *api.Expr) { x.Form.Terms = []api.Term{{Name: "i", Coef: 1}} },
			"2 no Terms":  func(x *api.Expr) { x.Form.Terms = []api.Term{{}} },
			"3 Array":     func(x *api.Expr) { x.Array = "b" },
			"3 no Array":  func(x *api.Expr) { x.Array = "!" },
			"3 Subs":      func(x *api.Expr) { x.Subs = []api.Form{{}} },
			"0 no Args":   func(x *api.Expr) { x.Args = nil },
			"0 one Arg":   func(x *api.Expr) { x.Args = []api.Expr{numberOf(0)} },
			"4 two Args":  func(x *api.Expr) { x.Args = []api.Expr{numberOf(0), numberOf(0)} },
			"0 more Args": func(x *api.Expr) { x.Args = []api.Expr{numberOf(0), numberOf(0), numberOf(0)} },
		} {
			uses := fmt.Sprint(min(op, 4)) == what[:1] || what == "0 no Args" && op < api.OpAdd
			if uses {
				continue
			}
			y := x
			change(&y)
			simpleError(t, fmt.Sprint(op, " with ", what), y, api.ErrForm)
			simpleError(t, fmt.Sprint(op, " within, with ", what), of(api.OpAdd, x, y), api.ErrForm)
		}
	}
}

// deep is an expression with a depth.
func deep(inner api.Expr, depth int) api.Expr {
	for range depth - 1 {
		inner = of(api.OpSub, numberOf(1), inner)
	}
	return inner
}

// P9.1 with Z4: the order of the errors: an expression ahead of its Args, and these in order.
func TestSimpleErrorOrder(t *testing.T) {
	simpleError(t, "deepest", deep(readOf("a", api.Form{}), api.MaxDepth), api.OK)
	simpleError(t, "too deep", deep(readOf("a", api.Form{}), api.MaxDepth+1), api.ErrLarge)
	// It is not simple yet when it is checked.
	simpleError(t, "too deep", deep(numberOf(0), api.MaxDepth+1), api.ErrLarge)
	simpleError(t, "too deep and more", deep(api.Expr{Op: -1}, api.MaxDepth+1), api.ErrLarge)
	simpleError(t, "kind, then form", api.Expr{Op: 7, N: -1}, api.ErrKind)
	simpleError(t, "form, then number", api.Expr{Op: api.OpNumber, N: -1, Array: "a"}, api.ErrForm)
	simpleError(t, "form, then name", api.Expr{Op: api.OpRead, N: -1}, api.ErrForm)
	simpleError(t, "name, then Subs", readOf("!"), api.ErrName)
	simpleError(t, "Subs, then their forms", readOf("a", slices.Repeat([]api.Form{{Const: 2_000_000}}, 5)...), api.ErrForm)
	simpleError(t, "forms in order", readOf("a", api.Form{Terms: []api.Term{{Name: "!", Coef: 1}}}, api.Form{Const: 2_000_000}), api.ErrName)
	bad := map[api.Errno]api.Expr{
		api.ErrKind: {Op: 7},
		api.ErrForm: {Op: api.OpAdd},
		api.ErrArg:  numberOf(-1),
		api.ErrName: readOf("!", api.Form{}),
	}
	for e, x := range bad {
		for f, y := range bad {
			simpleError(t, fmt.Sprint(e, " then ", f), of(api.OpMul, x, y), e)
			simpleError(t, fmt.Sprint(e, " deeper, then ", f), of(api.OpMul, deep(x, 5), y), e)
			simpleError(t, fmt.Sprint("above ", f), api.Expr{Op: api.OpMul, N: 3, Args: []api.Expr{x, y}}, api.ErrForm)
		}
	}
}
