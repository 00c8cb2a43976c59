package affine_test

import (
	"fmt"
	"slices"
	"strings"
	"testing"

	"warpbeam/affine"
	"warpbeam/api"
	"warpbeam/nest"
)

// repeated is so many conditions.
func repeated(f string, n int) []api.Form { return slices.Repeat(forms(f), n) }

// P3.1: what a set can be.
func TestCheckSetTakes(t *testing.T) {
	for _, s := range []api.Set{
		{},
		triangle(),
		{Sides: many(api.MaxVars)},
		set("i -1000000 -1000000, j 1000000 1000000"),
		{Sides: box("i 0 9"), Conds: repeated("i", api.MaxConds)},
		{Conds: repeated("-1", api.MaxConds)},
		set("i 0 9, j 0 9", "1000*i - 1000*j + 1000000", "-1000*i - 1000000"),
		set("b 0 1, a 0 1", "a + b"),
		set("i 1 200000"),
		set("i 1 200, j 1 1000"),
		set("i 1 20, j 1 100, k -49 50, l 7 7"),
		set("i 1 0"),
		set("i 1000000 -1000000"),
		set("i -1000000 1000000, j 3 2"),
		set("j 3 2, i -1000000 1000000, k -1000000 1000000, l -1000000 1000000, m -1000000 1000000"),
	} {
		same(t, shown(s), affine.CheckSet(s), api.OK)
	}
	for _, name := range []string{"a", "a9_z", strings.Repeat("a", api.MaxName), "arrays", "fo"} {
		same(t, name, affine.CheckSet(api.Set{Sides: []api.Side{{Name: name}}}), api.OK)
	}
}

// P3.1: what a set cannot be: functions with sets return the error first.
func TestCheckSetRefuses(t *testing.T) {
	for _, c := range []struct {
		set  api.Set
		want api.Errno
	}{
		{api.Set{Sides: many(api.MaxVars + 1)}, api.ErrLarge},
		{wrong(), api.ErrTwice},
		{set("i 0 1, j 0 1, i 2 3"), api.ErrTwice},
		{set("i -1000001 0"), api.ErrArg},
		{set("i 0 1000001"), api.ErrArg},
		{set("i 1000001 0"), api.ErrArg},
		{set("i 0 -1000001"), api.ErrArg},
		{api.Set{Sides: box("i 0 9"), Conds: repeated("i", api.MaxConds+1)}, api.ErrLarge},
		{set("i 0 9", "i", "j"), api.ErrRule},
		{set("", "i"), api.ErrRule},
		{set("i 0 9, k 0 9", "i + j + k"), api.ErrRule},
		{set("i 0 200000"), api.ErrFull},
		{set("i 1 201, j 1 1000"), api.ErrFull},
		{set("i 1 448, j 1 448"), api.ErrFull},
		{set("i 1 200001", "-1"), api.ErrFull},
	} {
		refused(t, c.set, c.want)
	}
	for _, name := range noNames() {
		refused(t, api.Set{Sides: []api.Side{{Name: "ok"}, {Name: name}}}, api.ErrName)
	}
	for _, n := range extremes() {
		refused(t, api.Set{Sides: []api.Side{{Name: "i", Low: n, High: 3}}}, api.ErrArg)
		refused(t, api.Set{Sides: []api.Side{{Name: "i", Low: 3, High: n}}}, api.ErrArg)
		refused(t, api.Set{Conds: []api.Form{{Const: n}}}, api.ErrArg)
	}
	huge := api.Set{Sides: many(api.MaxVars)}
	for i := range huge.Sides {
		huge.Sides[i].Low, huge.Sides[i].High = -api.MaxConst, api.MaxConst
	}
	refused(t, huge, api.ErrFull)
}

// P3.1: conditions have the errors of forms.
func TestCheckSetForms(t *testing.T) {
	for _, f := range wrongForms() {
		s := set("i 0 9, j 0 9", "i", "j")
		s.Conds = append(s.Conds, f, api.Form{Const: api.MaxConst + 1})
		refused(t, s, nest.CheckForm(f))
	}
}

// wrongForms have an error each, all of nest.CheckForm; the one for too many terms also has variables that are none of a set.
func wrongForms() []api.Form {
	term := func(name string, coef int) api.Term { return api.Term{Name: name, Coef: coef} }
	large := api.Form{}
	for i := range api.MaxTerms + 1 {
		large.Terms = append(large.Terms, term(fmt.Sprintf("i%02d", i), 1))
	}
	return []api.Form{
		large,
		{Const: api.MaxConst + 1},
		{Const: -api.MaxConst - 1},
		{Terms: []api.Term{term("I", 1)}},
		{Terms: []api.Term{term("i", 0)}},
		{Terms: []api.Term{term("i", api.MaxCoef+1)}},
		{Terms: []api.Term{term("i", -api.MaxCoef-1)}},
		{Terms: []api.Term{term("j", 1), term("i", 1)}},
		{Terms: []api.Term{term("i", 1), term("i", 1)}},
	}
}

// Z4: of several errors the first one of the list counts, side by side, then condition by condition.
func TestCheckSetOrder(t *testing.T) {
	far := api.MaxConst + 1
	worst := api.Form{Const: far, Terms: []api.Term{{Name: "x", Coef: 1}}}
	for _, c := range []struct {
		set  api.Set
		want api.Errno
	}{
		{api.Set{Sides: append(many(8), api.Side{Name: "", Low: far}), Conds: make([]api.Form, 61)}, api.ErrLarge},
		{api.Set{Sides: []api.Side{{Name: "a", Low: far}, {Name: ""}}}, api.ErrArg},
		{api.Set{Sides: []api.Side{{Name: ""}, {Name: "", Low: far}}}, api.ErrName},
		{api.Set{Sides: []api.Side{{Name: "a"}, {Name: "a", Low: far}}}, api.ErrTwice},
		{api.Set{Sides: []api.Side{{Name: "a"}, {Name: "b", High: far}, {Name: "a"}}}, api.ErrArg},
		{api.Set{Sides: []api.Side{{Name: "a", High: far}}, Conds: make([]api.Form, 61)}, api.ErrArg},
		{api.Set{Conds: append(repeated("i", 60), worst)}, api.ErrLarge},
		{api.Set{Conds: []api.Form{form("x"), worst}}, api.ErrRule},
		{api.Set{Conds: []api.Form{worst, form("x")}}, api.ErrArg},
		{set("i 0 200000", "j"), api.ErrRule},
		{api.Set{Sides: box("i 0 200000"), Conds: repeated("i", 61)}, api.ErrLarge},
	} {
		same(t, shown(c.set), affine.CheckSet(c.set), c.want)
	}
}
