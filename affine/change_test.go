package affine_test

import (
	"fmt"
	"testing"

	"warpbeam/affine"
	"warpbeam/api"
	"warpbeam/nest"
)

// P3.3: Tight.
func TestTight(t *testing.T) {
	for _, c := range []struct {
		set  api.Set
		want string
	}{
		{set("i 0 9", "2*i - 3", "4"), "i 0 9: i - 2"},
		{set("i 0 9", "2*i + 3"), "i 0 9: i + 1"},
		{set("i 0 9", "3 - 2*i"), "i 0 9: -i + 1"},
		{set("i 0 9", "-3 - 2*i"), "i 0 9: -i - 2"},
		{set("i 0 9", "5*i - 5"), "i 0 9: i - 1"},
		{set("i 0 9", "1000*i - 1"), "i 0 9: i - 1"},
		{set("i 0 9", "1000*i + 999"), "i 0 9: i"},
		{set("i 0 9", "-i"), "i 0 9: -i"},
		{set("i 0 9, j 0 9", "-4*i - 6*j + 9"), "i 0 9, j 0 9: -2*i - 3*j + 4"},
		{set("i 0 9, j 0 9", "6*i - 9*j - 4", "6*i - 10*j - 3"), "i 0 9, j 0 9: 2*i - 3*j - 2, 3*i - 5*j - 2"},
		{set("z 0 9, a 0 9", "2*z + 4*a + 1"), "z 0 9, a 0 9: 2*a + z"},
		{set("i 0 9, j 0 9", "2*i - 3*j + 7"), "i 0 9, j 0 9: 2*i - 3*j + 7"},
		// Of conditions with the same terms one stays, where the first one was.
		{set("i 0 9, j 0 9", "i - 1", "j", "3*i - 7", "2*i - 3", "i + 4"), "i 0 9, j 0 9: i - 3, j"},
		{set("i 0 9", "i - 3", "i - 1"), "i 0 9: i - 3"},
		{set("i 0 9", "i", "-i + 4", "-2*i + 9", "i"), "i 0 9: i, -i + 4"},
		{set("i 0 9, j 0 9", "i + j", "i", "i - j", "2*i + 2*j - 1"), "i 0 9, j 0 9: i + j - 1, i, i - j"},
		// Conditions without terms.
		{set("i 0 9", "0", "i", "5"), "i 0 9: i"},
		{set("i 0 9", "-6", "i", "5"), "i 0 9: -6, i"},
		{set("i 0 9", "4", "i", "-2", "0", "-5", "-1"), "i 0 9: i, -5"},
		{set("", "-2", "0", "-1000000"), ": -1000000"},
		{set("", "2"), ": "},
		{api.Set{}, ": "},
		{triangle(), "i 0 4, j 0 4: i, -i + 4, -i + j, -j + 4"},
		// Sides stay as they are.
		{set("i 5 -5, j -1000000 1000000", "2*i", "2*j"), "i 5 -5, j -1000000 1000000: i, j"},
		{set("i 0 9", "2*i - 1000000", "-3*i + 1000000", "1000*i + 1000*i - 1000*i - 999999"), "i 0 9: i - 500000, -i + 333333"},
	} {
		s, e := affine.Tight(c.set)
		same(t, shown(c.set), []any{shown(s), e}, []any{c.want, api.OK})
	}
}

// P3.3: Shadow.
func TestShadow(t *testing.T) {
	three := set("x 0 5, y 0 5, z 0 5", "x - y", "x - 2*z + 1", "y - x + 2", "z - x", "y + z - 3")
	for _, c := range []struct {
		set        api.Set
		name, want string
	}{
		{triangle(), "j", "i 0 4: i, -i + 4"},
		{triangle(), "i", "j 0 4: -j + 4, j"},
		{three, "x", "y 0 5, z 0 5: y + z - 3, y + 2, z, -y + 5, -y + z, -z + 1, y - 2*z + 3"},
		{set("i 0 9, j -5 5", "3*i - 2*j - 4", "7 - 2*i + j", "j + 3", "5*i + 1"), "i", "j -5 5: j + 3, -j + 11"},
		// Sides count as conditions, ahead of all others.
		{set("i 2 7, j 0 9", "j - i", "i + j - 8"), "i", "j 0 9: j - 4"},
		{set("i 2 7, j 0 9", "j - 2*i"), "i", "j 0 9: j - 4"},
		{set("i 2 7, j 0 9", "3*i - j"), "i", "j 0 9: -j + 21"},
		{set("i -7 -2, j 0 9", "3*i + j", "20 - j - i"), "i", "j 0 9: -j + 27, j - 6"},
		{set("i 2 7"), "i", ": "},
		{set("i 2 7", "3*i - 1", "4"), "i", ": "},
		{set("i 2 7", "3*i - 22"), "i", ": -1"},
		{set("i 7 2"), "i", ": -5"},
		{set("i 0 9", "i - 5", "2 - i"), "i", ": -3"},
		{set("i 0 9, j 0 9", "2*j - 5", "3"), "i", "j 0 9: j - 3"},
		{set("i 0 1000000, j 1 0, k 0 9"), "i", "j 1 0, k 0 9: "},
		{set("i 0 20, j 1 0, k 0 9"), "j", "i 0 20, k 0 9: -1"},
		{set("x 0 9", "x - 1000000", "-x"), "x", ": -1000000"},
		// With other coefficients than 1 and -1 it can have points that the set has not.
		{set("i 0 4, j 0 9", "2*i - j", "j - 2*i"), "i", "j 0 9: j, -j + 8"},
		{set("c 0 1, b 0 1, a 0 1", "a + b + c - 2"), "b", "c 0 1, a 0 1: a + c - 1"},
		// What is added up can be beyond the limits, if it is within them when it is tight.
		{set("x 0 9, y 0 9, z 0 9", "1000*x - 1000*y + 999000", "1000*z - 999*x"), "x", "y 0 9, z 0 9: z, -y + 1008, -999*y + 1000*z + 998001"},
		{set("x 0 9, y 0 9", "1000*x + 1000000", "-1000*x + 1000000"), "x", "y 0 9: "},
	} {
		s, e := affine.Shadow(c.set, c.name)
		same(t, shown(c.set)+" without "+c.name, []any{shown(s), e}, []any{c.want, api.OK})
	}
}

// P3.3: just with coefficients 1 and -1 the points of a shadow are those of the set without the variable.
func TestShadowHasMore(t *testing.T) {
	s := set("i 0 4, j 0 9", "2*i - j", "j - 2*i")
	l, e := affine.Projected(s, []string{"j"})
	same(t, "Projected", []any{l, e}, []any{[][]int{{0}, {2}, {4}, {6}, {8}}, api.OK})
	x, e := affine.Shadow(s, "i")
	same(t, "Shadow", []any{points(t, x), e}, []any{[][]int{{0}, {1}, {2}, {3}, {4}, {5}, {6}, {7}, {8}}, api.OK})
}

// coprime is so many conditions with different terms, none of which has x.
func coprime(n int) []api.Form {
	var l []api.Form
	for i := range n {
		l = append(l, form(fmt.Sprint(i+1, "*y + w")))
	}
	return l
}

// P3.3: errors of Shadow.
func TestShadowErrors(t *testing.T) {
	refuse := func(want api.Errno, s api.Set, name string) {
		t.Helper()
		got, e := affine.Shadow(s, name)
		same(t, shown(s)+" without "+name, []any{got, e}, []any{api.Set{}, want})
	}
	for _, name := range noNames() {
		refuse(api.ErrName, triangle(), name)
	}
	refuse(api.ErrNone, triangle(), "k")
	refuse(api.ErrNone, api.Set{}, "i")
	refuse(api.ErrArg, set("x 0 9, y 0 9, z 0 9", "1000*x - 999*y", "1000*z - 997*x"), "x")
	refuse(api.ErrArg, set("x 0 9, y 0 9", "x + y + 1000000", "1000000 - x"), "x")
	refuse(api.ErrArg, set("x 0 9", "x - 1000000", "-x - 1"), "x")
	refuse(api.ErrArg, set("x 0 9", "1000*x - 1000000", "-1000*x - 1000000"), "x")
	refuse(api.ErrFull, set("i 0 1000000, j 1 0, k 0 9"), "j")
	s := set("x 0 9, y 0 9, w 0 9, z 0 9")
	s.Conds = append(coprime(59), form("x - y"))
	got, e := affine.Shadow(s, "x")
	same(t, "60 conditions", []any{len(got.Conds), e}, []any{60, api.OK})
	s.Conds = append(coprime(58), form("x - y"), form("z - x"))
	refuse(api.ErrLarge, s, "x")
	s.Sides[3] = api.Side{Name: "z", Low: 1}
	s.Sides[1].High = api.MaxConst
	refuse(api.ErrLarge, s, "x")
	refuse(api.ErrFull, api.Set{Sides: s.Sides}, "z")
}

// P3.3: Mapped.
func TestMapped(t *testing.T) {
	three := set("i 0 4, j 0 4, k -1 3", "j - i", "9 - 2*j - k", "i + k", "4")
	for _, c := range []struct {
		set            api.Set
		name, by, want string
	}{
		{three, "j", "2*i - k + 1", "i 0 4, k -1 3: 2*i - k + 1, -2*i + k + 3, i - k + 1, -4*i + k + 7, i + k, 4"},
		{three, "j", "i", "i 0 4, k -1 3: i, -i + 4, 0, -2*i - k + 9, i + k, 4"},
		{three, "j", "7", "i 0 4, k -1 3: 7, -3, -i + 7, -k - 5, i + k, 4"},
		{three, "i", "0", "j 0 4, k -1 3: 0, 4, j, -2*j - k + 9, k, 4"},
		{three, "k", "-j", "i 0 4, j 0 4: -j + 1, j + 3, -i + j, -j + 9, i - j, 4"},
		{set("i -3 5"), "i", "2", ": 5, 3"},
		{set("z 1 2, a 3 4", "2*z - 2*a", "2*z - 2*a"), "z", "a - 1", "a 3 4: a - 2, -a + 3, -2, -2"},
		{set("i 0 9, j 0 9", "999*j + i"), "j", "i", "i 0 9: i, -i + 9, 1000*i"},
		{set("i 5 2, j 0 9"), "i", "3*j", "j 0 9: 3*j - 5, -3*j + 2"},
	} {
		s, e := affine.Mapped(c.set, c.name, form(c.by))
		same(t, shown(c.set)+" "+c.name+" by "+c.by, []any{shown(s), e}, []any{c.want, api.OK})
	}
}

// P3.3: errors of Mapped.
func TestMappedErrors(t *testing.T) {
	refuse := func(want api.Errno, s api.Set, name string, by api.Form) {
		t.Helper()
		got, e := affine.Mapped(s, name, by)
		same(t, shown(s)+" "+name+" by "+texts([]api.Form{by}), []any{got, e}, []any{api.Set{}, want})
	}
	far := api.Form{Const: api.MaxConst + 1}
	for _, name := range noNames() {
		refuse(api.ErrName, triangle(), name, far)
	}
	refuse(api.ErrNone, triangle(), "k", far)
	refuse(api.ErrNone, api.Set{}, "k", form("1"))
	for _, f := range wrongForms() {
		refuse(nest.CheckForm(f), triangle(), "j", f)
	}
	refuse(api.ErrRule, triangle(), "j", form("k"))
	refuse(api.ErrRule, triangle(), "j", form("j"))
	refuse(api.ErrRule, triangle(), "i", form("i + j"))
	refuse(api.ErrArg, triangle(), "i", api.Form{Const: api.MaxConst + 1, Terms: form("k").Terms})
	refuse(api.ErrArg, set("j -1 5"), "j", form("1000000"))
	refuse(api.ErrArg, set("j 0 1"), "j", form("-1000000"))
	refuse(api.ErrArg, set("i 0 9, j 0 9", "1000*j + i"), "j", form("i"))
	refuse(api.ErrArg, set("i 0 9, j 0 9", "2*j"), "j", form("501*i"))
	refuse(api.ErrArg, set("i 0 9, j 0 9", "2*j"), "j", form("500001"))
	refuse(api.ErrFull, set("i 0 1000000, j 1 0"), "j", form("i"))
	s := set("i 0 9, j 0 9")
	s.Conds = repeated("i", 58)
	got, e := affine.Mapped(s, "j", form("i"))
	same(t, "60 conditions", []any{len(got.Conds), e}, []any{60, api.OK})
	s.Conds = repeated("i", 59)
	refuse(api.ErrLarge, s, "j", form("i"))
	refuse(api.ErrLarge, s, "j", form("1000000 - 1000*i"))
}
