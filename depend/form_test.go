package depend_test

import (
	"fmt"
	"strings"
	"testing"

	"warpbeam/api"
	"warpbeam/depend"
)

// P4.5: a form can be 0 if the greatest common divisor of its Coefs divides Const.
func TestSolvable(t *testing.T) {
	for _, c := range []struct {
		form string
		want bool
	}{
		{"0", true},
		{"1", false},
		{"-1", false},
		{"1000000", false},
		{"i", true},
		{"i + 7", true},
		{"-i + 7", true},
		{"2*i", true},
		{"2*i + 1", false},
		{"2*i - 1", false},
		{"-2*i - 1", false},
		{"2*i + 4", true},
		{"-2*i - 4", true},
		{"4*i + 2", false},
		{"2*i - 4*j + 3", false},
		{"2*i - 4*j + 6", true},
		{"6*i + 4*j + 3", false},
		{"6*i + 4*j + 2", true},
		{"6*i + 10*j + 15*k + 1", true},
		{"6*i + 10*j + 1", false},
		{"-6*i - 9*j + 4", false},
		{"-6*i - 9*j - 3", true},
		{"9*i - 6*j - 3", true},
		{"1000*i + 999*j + 1000000", true},
		{"1000*i - 1000*j + 999999", false},
		{"1000*i - 1000*j + 999000", true},
		{"12*a + 18*b + 30*c + 42*d + 66*e + 78*f + 102*g + 114*h + 6*i + 24*j + 36*k + 48*l + 9", false},
		{"12*a + 18*b + 30*c + 42*d + 66*e + 78*f + 102*g + 114*h + 6*i + 24*j + 36*k + 47*l + 9", true},
	} {
		is, e := depend.Solvable(form(t, c.form))
		same(t, c.form, []any{is, e}, []any{c.want, api.OK})
	}
}

// badForm is a form with the error that its check has.
type badForm struct {
	form api.Form
	want api.Errno
}

func badForms() []badForm {
	l := []badForm{
		{api.Form{Const: api.MaxConst + 1}, api.ErrArg},
		{api.Form{Const: -api.MaxConst - 1}, api.ErrArg},
		{api.Form{Terms: make([]api.Term, api.MaxTerms+1)}, api.ErrLarge},
		{api.Form{Terms: []api.Term{{Name: "i", Coef: 0}}}, api.ErrArg},
		{api.Form{Terms: []api.Term{{Name: "i", Coef: api.MaxCoef + 1}}}, api.ErrArg},
		{api.Form{Terms: []api.Term{{Name: "i", Coef: 1}, {Name: "i", Coef: 1}}}, api.ErrOrder},
		{api.Form{Terms: []api.Term{{Name: "j", Coef: 1}, {Name: "i", Coef: 1}}}, api.ErrOrder},
	}
	for _, name := range noNames() {
		l = append(l, badForm{api.Form{Terms: []api.Term{{Name: name, Coef: 0}}}, api.ErrName})
	}
	for _, n := range extremes() {
		l = append(l, badForm{api.Form{Const: n}, api.ErrArg}, badForm{api.Form{Terms: []api.Term{{Name: "i", Coef: n}}}, api.ErrArg})
	}
	return l
}

func TestErrorsOfForms(t *testing.T) {
	bad := api.Point{{Name: "!", Value: 0}}
	for _, c := range badForms() {
		is, e := depend.Solvable(c.form)
		same(t, fmt.Sprint(c.form), []any{is, e}, []any{false, c.want})
		least, most, e := depend.Span(c.form, bad, nil)
		same(t, fmt.Sprint(c.form), []any{least, most, e}, []any{0, 0, c.want})
	}
}

// point reads `i 0, j -1`.
func point(t *testing.T, text string) api.Point {
	t.Helper()
	var x api.Point
	for part := range strings.SplitSeq(text, ", ") {
		var s api.Slot
		if text == "" {
			break
		}
		if _, e := fmt.Sscan(part, &s.Name, &s.Value); e != nil {
			t.Fatal(text, e)
		}
		x = append(x, s)
	}
	return x
}

// P4.5: the least and the greatest value of a form between two points.
func TestSpan(t *testing.T) {
	for _, c := range []struct {
		form, low, high string
		least, most     int
	}{
		{"2*i - 4*j + 3", "i 0, j 1", "i 5, j 2", -5, 9},
		{"7", "", "", 7, 7},
		{"0", "", "", 0, 0},
		{"-7", "i 0", "i 5", -7, -7},
		{"i", "i -2", "i 5", -2, 5},
		{"-i", "i -2", "i 5", -5, 2},
		{"-3*i + 1", "i -5", "i -2", 7, 16},
		{"3*i + 1", "i -5", "i -2", -14, -5},
		{"i + 4", "i 3", "i 3", 7, 7},
		{"b - c", "a -9, b 1, c 2, d -9", "a 9, b 3, c 5, d 9", -4, 1},
		{"1000*i - 1000*j + 1000000", "i -1000000, j -1000000", "i 1000000, j 1000000", -1_999_000_000, 2_001_000_000},
		{"1000*i - 1000000", "i -1000000", "i -1000000", -1_001_000_000, -1_001_000_000},
	} {
		least, most, e := depend.Span(form(t, c.form), point(t, c.low), point(t, c.high))
		same(t, c.form, []any{least, most, e}, []any{c.least, c.most, api.OK})
	}
}

// The largest values that there are: twelve variables with the largest coefficients.
func TestLargeSpan(t *testing.T) {
	f := api.Form{Const: api.MaxConst}
	var low, high api.Point
	for i := range api.MaxTerms {
		name := string(rune('a' + i))
		f.Terms = append(f.Terms, api.Term{Name: name, Coef: api.MaxCoef - 2*api.MaxCoef*(i%2)})
		low = append(low, api.Slot{Name: name, Value: -api.MaxConst})
		high = append(high, api.Slot{Name: name, Value: api.MaxConst})
	}
	least, most, e := depend.Span(f, low, high)
	same(t, "Span", []any{least, most, e}, []any{-11_999_000_000, 12_001_000_000, api.OK})
}

// P4.5: the errors of points, in their order.
func TestErrorsOfSpan(t *testing.T) {
	const far = "1000001"
	type row struct {
		form, low, high string
		want            api.Errno
	}
	rows := []row{
		{"i", "i " + far, "i 0", api.ErrArg},
		{"i", "i -" + far, "i 0", api.ErrArg},
		{"i", "i 0", "i " + far, api.ErrArg},
		{"i", "i 0", "i -" + far, api.ErrArg},
		{"i", "i 0, i 0", "i 0, i 0", api.ErrOrder},
		{"i", "j 0, i 0", "i 0, j 0", api.ErrOrder},
		{"i", "i 0, j 0", "j 0, i 0", api.ErrOrder},
		{"i", "i 0", "", api.ErrForm},
		{"i", "", "i 0", api.ErrForm},
		{"i", "i 0", "j 0", api.ErrForm},
		{"i", "i 0, j 0", "i 0, k 0", api.ErrForm},
		{"i", "i 0, j 0", "i 0", api.ErrForm},
		{"i", "i 0", "i 0, j 0", api.ErrForm},
		{"i", "i 1", "i 0", api.ErrArg},
		{"i", "i 1, j 1", "i 1, j 0", api.ErrArg},
		{"i", "j 1", "j 0", api.ErrArg},
		{"i", "", "", api.ErrNone},
		{"i", "j 0", "j 0", api.ErrNone},
		{"i + k", "i 0, j 0", "i 0, j 0", api.ErrNone},
		{"i + j + k", "j 0, k 0", "j 0, k 0", api.ErrNone},
		// For each variable in order, first all of low, then of high, then both together.
		{"i", "i " + far + ", A 0", "i 0", api.ErrArg},
		{"i", "A " + far + ", i 0", "i 0", api.ErrName},
		{"i", "i 0, A " + far, "i 0", api.ErrName},
		{"i", "j 0, i " + far, "i 0", api.ErrArg},
		{"i", "j 0, i 0, A 0", "A 0", api.ErrOrder},
		{"i", "i 0, A 0", "i " + far, api.ErrName},
		{"i", "i " + far, "A 0", api.ErrArg},
		{"i", "j 0, i 0", "A 0", api.ErrOrder},
		{"i", "i 5, j 0", "A 0", api.ErrName},
		{"i", "i 5, j 0", "i 0", api.ErrForm},
		{"k", "i 5", "i 0", api.ErrArg},
		{"k", "i 0", "j 0", api.ErrForm},
	}
	for _, c := range rows {
		least, most, e := depend.Span(form(t, c.form), point(t, c.low), point(t, c.high))
		same(t, c.form+"; "+c.low+"; "+c.high, []any{least, most, e}, []any{0, 0, c.want})
	}
	for _, name := range noNames() {
		bad, good := api.Point{{Name: name, Value: 0}}, point(t, "i 0")
		_, _, e := depend.Span(form(t, "i"), bad, good)
		same(t, name, e, api.ErrName)
		_, _, e = depend.Span(form(t, "i"), good, bad)
		same(t, name, e, api.ErrName)
	}
	for _, n := range extremes() {
		bad, good := api.Point{{Name: "i", Value: n}}, point(t, "i 0")
		_, _, e := depend.Span(form(t, "i"), bad, good)
		same(t, "low", e, api.ErrArg)
		_, _, e = depend.Span(form(t, "i"), good, bad)
		same(t, "high", e, api.ErrArg)
	}
}
