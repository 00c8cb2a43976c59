package nest_test

import (
	"fmt"
	"strings"
	"testing"

	"warpbeam/api"
	"warpbeam/nest"
)

func TestCheckFormNames(t *testing.T) {
	for _, s := range someNames() {
		same(t, s, nest.CheckForm(form(0, s, 1)), api.OK)
	}
	for _, s := range noNames() {
		same(t, s, nest.CheckForm(form(0, s, 1)), api.ErrName)
	}
}

func TestCheckFormNumbers(t *testing.T) {
	for _, n := range []int{0, 1, -1, api.MaxConst, -api.MaxConst} {
		same(t, fmt.Sprint("const ", n), nest.CheckForm(form(n)), api.OK)
	}
	for _, n := range append(extremes(), api.MaxConst+1, -api.MaxConst-1) {
		same(t, fmt.Sprint("const ", n), nest.CheckForm(form(n)), api.ErrArg)
	}
	for _, n := range []int{1, -1, api.MaxCoef, -api.MaxCoef} {
		same(t, fmt.Sprint("coef ", n), nest.CheckForm(form(0, "i", n)), api.OK)
	}
	for _, n := range append(extremes(), 0, api.MaxCoef+1, -api.MaxCoef-1) {
		same(t, fmt.Sprint("coef ", n), nest.CheckForm(form(0, "i", n)), api.ErrArg)
	}
	same(t, "most terms", nest.CheckForm(terms(api.MaxTerms)), api.OK)
	same(t, "too many terms", nest.CheckForm(terms(api.MaxTerms+1)), api.ErrLarge)
}

func TestCheckFormOrder(t *testing.T) {
	cases := []struct {
		f    api.Form
		want api.Errno
	}{
		{form(0), api.OK},
		{form(0, "a", 1, "b", 1), api.OK},
		{form(0, "a", 1, "aa", 1, "b", 1), api.OK},
		{form(0, "i1", 1, "i10", 1, "i2", 1, "i_", 1), api.OK},
		{form(0, "b", 1, "a", 1), api.ErrOrder},
		{form(0, "a", 1, "a", 1), api.ErrOrder},
		{form(0, "a", 1, "c", 1, "b", 1), api.ErrOrder},
		// Each error goes before those that stand behind it.
		{api.Form{Const: api.MaxConst + 1, Terms: make([]api.Term, 13)}, api.ErrArg},
		{api.Form{Terms: make([]api.Term, 13)}, api.ErrLarge},
		{form(0, "a", 1, "", 0), api.ErrName},
		{form(0, "b", 1, "a", 0), api.ErrArg},
		{form(0, "b", 1, "a", 1, "", 0), api.ErrOrder},
		{form(0, "b", 0, "", 1), api.ErrArg},
	}
	for _, c := range cases {
		same(t, fmt.Sprint(c.f), nest.CheckForm(c.f), c.want)
	}
}

func TestValue(t *testing.T) {
	big := form(api.MaxConst, "i", api.MaxCoef, "j", -api.MaxCoef)
	cases := []struct {
		f    api.Form
		x    api.Point
		want int
	}{
		{form(7), nil, 7},
		{form(-7, "i", 2), nil, -7},
		{form(3, "i", 2, "j", -1), api.Point{{Name: "i", Value: 5}, {Name: "j", Value: 4}}, 9},
		{form(3, "i", 2, "k", -1), api.Point{{Name: "a", Value: 50}, {Name: "j", Value: 4}, {Name: "k", Value: 10}, {Name: "l", Value: 1}}, -7},
		{form(0, "i", -3), api.Point{{Name: "i", Value: -5}}, 15},
		{big, api.Point{{Name: "i", Value: api.MaxConst}, {Name: "j", Value: -api.MaxConst}}, 2_001_000_000},
		{big, api.Point{{Name: "i", Value: -api.MaxConst}, {Name: "j", Value: api.MaxConst}}, -1_999_000_000},
	}
	for _, c := range cases {
		n, e := nest.Value(c.f, c.x)
		same(t, fmt.Sprint(c.f, c.x), []any{n, e}, []any{c.want, api.OK})
	}
}

func TestValueErrors(t *testing.T) {
	cases := []struct {
		f    api.Form
		x    api.Point
		want api.Errno
	}{
		{form(5, "i", 0), api.Point{{Name: "", Value: 1}}, api.ErrArg},
		{form(5, "j", 1, "i", 1), nil, api.ErrOrder},
		{form(5), api.Point{{Name: "", Value: api.MaxConst + 1}}, api.ErrName},
		{form(5), api.Point{{Name: "for", Value: 1}}, api.ErrName},
		{form(5), api.Point{{Name: "i", Value: api.MaxConst + 1}}, api.ErrArg},
		{form(5), api.Point{{Name: "i", Value: -api.MaxConst - 1}}, api.ErrArg},
		{form(5), api.Point{{Name: "j", Value: 1}, {Name: "i", Value: api.MaxConst + 1}}, api.ErrArg},
		{form(5), api.Point{{Name: "j", Value: 1}, {Name: "i", Value: 1}}, api.ErrOrder},
		{form(5), api.Point{{Name: "j", Value: 1}, {Name: "j", Value: 1}, {Name: "", Value: 1}}, api.ErrOrder},
		{form(5), api.Point{{Name: "i", Value: api.MaxConst + 1}, {Name: "", Value: 1}}, api.ErrArg},
	}
	for _, n := range extremes() {
		cases = append(cases, struct {
			f    api.Form
			x    api.Point
			want api.Errno
		}{form(5, "i", 1), api.Point{{Name: "i", Value: n}}, api.ErrArg})
	}
	for _, c := range cases {
		n, e := nest.Value(c.f, c.x)
		same(t, fmt.Sprint(c.f, c.x), []any{n, e}, []any{0, c.want})
	}
}

func TestSum(t *testing.T) {
	f, g := form(3, "i", 2, "j", -1), form(5, "j", 1, "k", 4)
	cases := []struct {
		f    api.Form
		a    int
		g    api.Form
		b    int
		want api.Form
	}{
		{f, 1, g, 1, form(8, "i", 2, "k", 4)},
		{f, 1, g, -2, form(-7, "i", 2, "j", -3, "k", -8)},
		{g, -2, f, 1, form(-7, "i", 2, "j", -3, "k", -8)},
		{f, 0, g, 0, form(0)},
		{f, 0, g, 1, g},
		{f, 1, f, -1, form(0)},
		{form(0, "i", 1), api.MaxCoef, form(0), -api.MaxCoef, form(0, "i", api.MaxCoef)},
		{form(api.MaxConst), 1000, form(api.MaxConst), -999, form(api.MaxConst)},
		{form(0, "b", 1), 1, form(0, "a", 1, "c", 1), 1, form(0, "a", 1, "b", 1, "c", 1)},
	}
	for _, c := range cases {
		got, e := nest.Sum(c.f, c.a, c.g, c.b)
		same(t, fmt.Sprint(c), []any{got, e}, []any{c.want, api.OK})
	}
}

func TestSumErrors(t *testing.T) {
	many := terms(api.MaxTerms)
	cases := []struct {
		f    api.Form
		a    int
		g    api.Form
		b    int
		want api.Errno
	}{
		{form(0, "", 1), 1001, form(0, "i", 0), 1, api.ErrName},
		{form(0), 1001, form(0, "", 1), 1, api.ErrName},
		{form(0), 1001, form(0), 1, api.ErrArg},
		{form(0), -1001, form(0), 1, api.ErrArg},
		{form(0), 1, form(0), 1001, api.ErrArg},
		{form(0), 1, form(0), -1001, api.ErrArg},
		{form(api.MaxConst), 1, form(1), 1, api.ErrArg},
		{form(-api.MaxConst), 1, form(1), -1, api.ErrArg},
		{form(0, "i", 1000), 1, form(0, "i", 1), 1, api.ErrArg},
		{form(0, "i", 2), 501, form(0), 1, api.ErrArg},
		{many, 1, form(0, "z", 1), 1, api.ErrLarge},
		{many, 1001, form(0, "z", 1), 1, api.ErrArg},
	}
	for _, n := range extremes() {
		cases = append(cases, struct {
			f    api.Form
			a    int
			g    api.Form
			b    int
			want api.Errno
		}{form(0), n, form(0), n, api.ErrArg})
	}
	for _, c := range cases {
		got, e := nest.Sum(c.f, c.a, c.g, c.b)
		same(t, fmt.Sprint(c), []any{got, e}, []any{api.Form{}, c.want})
	}
}

// As many terms as there can be are only too many if none of them goes.
func TestSumCountsWhatIsLeft(t *testing.T) {
	many := terms(api.MaxTerms)
	got, e := nest.Sum(many, 1, form(0, "va", -1, "z", 1), 1)
	want := api.Form{Terms: append(append([]api.Term{}, many.Terms[1:]...), api.Term{Name: "z", Coef: 1})}
	same(t, "sum", []any{got, e}, []any{want, api.OK})
}

func TestPut(t *testing.T) {
	f := form(3, "i", 2, "j", -1)
	cases := []struct {
		name string
		by   api.Form
		want api.Form
	}{
		{"i", form(1, "j", 1), form(5, "j", 1)},
		{"i", form(1, "i", 1), form(5, "i", 2, "j", -1)},
		{"i", form(0), form(3, "j", -1)},
		{"i", form(-4), form(-5, "j", -1)},
		{"j", form(0, "i", 2), form(3)},
		{"j", form(2, "a", 3, "z", -4), form(1, "a", -3, "i", 2, "z", 4)},
		{"k", form(9, "l", 9), f},
		{"i", form(0, "i", -1, "j", 1), form(3, "i", -2, "j", 1)},
	}
	for _, c := range cases {
		got, e := nest.Put(f, c.name, c.by)
		same(t, fmt.Sprint(c), []any{got, e}, []any{c.want, api.OK})
	}
}

func TestPutErrors(t *testing.T) {
	cases := []struct {
		f    api.Form
		name string
		by   api.Form
		want api.Errno
	}{
		{form(0, "i", 0), "", form(0, "j", 1, "i", 1), api.ErrArg},
		{form(0), "", form(0, "j", 1, "i", 1), api.ErrName},
		{form(0), "if", form(0), api.ErrName},
		{form(0), "i", form(0, "j", 1, "i", 1), api.ErrOrder},
		{form(0), "i", form(api.MaxConst + 1), api.ErrArg},
		{form(1, "i", 1), "i", form(api.MaxConst), api.ErrArg},
		{form(0, "i", 2), "i", form(0, "j", 501), api.ErrArg},
		{form(0, "i", 1000), "i", form(0, "j", 1000), api.ErrArg},
		{terms(api.MaxTerms), "va", form(0, "y", 1, "z", 1), api.ErrLarge},
	}
	for _, c := range cases {
		got, e := nest.Put(c.f, c.name, c.by)
		same(t, fmt.Sprint(c), []any{got, e}, []any{api.Form{}, c.want})
	}
}

// What is added and put has the value that it should have.
func TestFormsHaveTheirValues(t *testing.T) {
	g := dice(1)
	value := func(f api.Form, x api.Point) int {
		n, e := nest.Value(f, x)
		same(t, "value", e, api.OK)
		return n
	}
	for range 300 {
		f, h := g.form("i", "j", "k"), g.form("i", "k", "l")
		a, b := g.below(9)-4, g.below(9)-4
		var x api.Point
		for _, s := range strings.Fields("i j k l") {
			x = append(x, api.Slot{Name: s, Value: g.below(41) - 20})
		}
		sum, e := nest.Sum(f, a, h, b)
		same(t, "sum", e, api.OK)
		same(t, fmt.Sprint(f, a, h, b, x), value(sum, x), a*value(f, x)+b*value(h, x))
		put, e := nest.Put(f, "k", h)
		same(t, "put", e, api.OK)
		y := append(api.Point{}, x...)
		y[2].Value = value(h, x)
		same(t, fmt.Sprint(f, h, x), value(put, x), value(f, y))
	}
}
