package affine_test

import (
	"slices"
	"testing"

	"warpbeam/affine"
	"warpbeam/api"
	"warpbeam/nest"
)

// P3.2: Range.
func TestRange(t *testing.T) {
	for _, c := range []struct {
		set       api.Set
		form      string
		low, high int
		some      bool
	}{
		{triangle(), "i + j", 0, 8, true},
		{triangle(), "i - j", -4, 0, true},
		{triangle(), "3*j - 2*i + 1", 1, 13, true},
		{triangle(), "7", 7, 7, true},
		{set("i 3 5", "2*i - 7", "9 - 2*i"), "-i", -4, -4, true},
		{set("i -5 -3"), "i", -5, -3, true},
		{set("i -5 -3"), "2*i + 1", -9, -5, true},
		{set("i 2 4"), "-i - 9", -13, -11, true},
		{set("z 0 2, a 5 9"), "z", 0, 2, true},
		{api.Set{}, "-5", -5, -5, true},
		{set("", "-1"), "-5", 0, 0, false},
		{set("i 1 0"), "i + 4", 0, 0, false},
		{set("i 0 9", "i - 10"), "i + 4", 0, 0, false},
	} {
		low, high, some, e := affine.Range(c.set, form(c.form))
		same(t, shown(c.set)+" "+c.form, []any{low, high, some, e}, []any{c.low, c.high, c.some, api.OK})
	}
}

// P3.2: Implies.
func TestImplies(t *testing.T) {
	for _, c := range []struct {
		set  api.Set
		form string
		want bool
	}{
		{triangle(), "j - i", true},
		{triangle(), "i - j", false},
		{triangle(), "8 - i - j", true},
		{triangle(), "7 - i - j", false},
		{triangle(), "j - 1", false},
		{triangle(), "0", true},
		{triangle(), "-1", false},
		{set("i 0 9", "2*i - 5"), "i - 3", true},
		{set("i 0 9", "2*i - 5"), "i - 4", false},
		{set("i 1 0"), "-1", true},
		{set("", "-1"), "-1", true},
		{api.Set{}, "-1", false},
	} {
		is, e := affine.Implies(c.set, form(c.form))
		same(t, shown(c.set)+" "+c.form, []any{is, e}, []any{c.want, api.OK})
	}
}

// P3.2: errors of forms, of Range, Implies and Image.
func TestFormErrors(t *testing.T) {
	check := func(f api.Form, want api.Errno) {
		t.Helper()
		for _, s := range []api.Set{triangle(), set("i 1 0, j 0 9"), set("i 0 9, j 0 9", "-1")} {
			low, high, some, e := affine.Range(s, f)
			same(t, "Range", []any{low, high, some, e}, []any{0, 0, false, want})
			is, e := affine.Implies(s, f)
			same(t, "Implies", []any{is, e}, []any{false, want})
			n, e := affine.Image(s, []api.Form{form("i"), f, {Const: api.MaxConst + 1}})
			same(t, "Image", []any{n, e}, []any{0, want})
		}
	}
	for _, f := range wrongForms() {
		check(f, nest.CheckForm(f))
	}
	for _, f := range forms("k", "i + ij + j", "a - i") {
		check(f, api.ErrRule)
	}
	// A form that is wrong, and has a variable that is none of the set.
	check(api.Form{Terms: []api.Term{{Name: "a", Coef: 1}, {Name: "b", Coef: 0}}}, api.ErrArg)
	n, e := affine.Image(triangle(), slices.Repeat([]api.Form{{Const: api.MaxConst + 1}}, 9))
	same(t, "9 forms", []any{n, e}, []any{0, api.ErrLarge})
	n, e = affine.Image(triangle(), []api.Form{form("k"), {Const: api.MaxConst + 1}})
	same(t, "form by form", []any{n, e}, []any{0, api.ErrRule})
}

// P3.2: Meet.
func TestMeet(t *testing.T) {
	for _, c := range []struct {
		a, b api.Set
		want string
	}{
		{triangle(), set("i -3 2, j 1 9", "3*i - j"), "i 0 2, j 1 4: i, -i + 4, -i + j, -j + 4, 3*i - j"},
		{set("z 0 5, a 0 5"), set("z 6 9, a 5 6"), "z 6 5, a 5 5: "},
		{set("i 0 1", "2*i - 4", "3"), set("i 0 1", "2*i - 4"), "i 0 1: 2*i - 4, 3, 2*i - 4"},
		{set("", "-1"), set("", "4"), ": -1, 4"},
		{set("i 3 2, j -1000000 1000000"), set("i -7 7, j 0 8"), "i 3 2, j 0 8: "},
		{set("i 3 2, j -1000000 1000000"), set("i 9 1, j -1000000 1000000"), "i 9 1, j -1000000 1000000: "},
	} {
		m, e := affine.Meet(c.a, c.b)
		same(t, shown(c.a)+" and "+shown(c.b), []any{shown(m), e}, []any{c.want, api.OK})
	}
	a, b := set("i 0 1"), set("i 0 1")
	a.Conds, b.Conds = repeated("i", 30), repeated("-i", 30)
	m, e := affine.Meet(a, b)
	same(t, "60 conditions", []any{len(m.Conds), e}, []any{60, api.OK})
	b.Conds = repeated("-i", 31)
	m, e = affine.Meet(a, b)
	same(t, "61 conditions", []any{m, e}, []any{api.Set{}, api.ErrLarge})
}

// P3.2: Same.
func TestSame(t *testing.T) {
	for _, c := range []struct {
		a, b api.Set
		want bool
	}{
		{triangle(), triangle(), true},
		{triangle(), set("i 0 4, j 0 4", "j - i"), true},
		{triangle(), set("i -1 4, j 0 4", "j - i"), false},
		{set("i -1 4, j 0 4", "j - i"), triangle(), false},
		{set("i 0 9", "2*i - 5"), set("i 3 20", "19 - 2*i"), true},
		{set("i 0 9", "2*i - 5"), set("i 2 9"), false},
		{set("i 0 4"), set("i 1 5"), false},
		{set("i 0 4"), set("i 1 4"), false},
		{set("i 1 4"), set("i 0 4"), false},
		{set("i 0 4"), set("i 0 5", "i - 1"), false},
		{set("i 1 0"), set("i 5 5", "-1"), true},
		{set("i 1 0, j -1000000 1000000"), set("i 0 1, j 0 1", "i - 2*j", "2*j - i - 1"), true},
		{set("i 1 0"), set("i 5 5"), false},
		{api.Set{}, set("", "3"), true},
		{api.Set{}, set("", "-3"), false},
	} {
		is, e := affine.Same(c.a, c.b)
		same(t, shown(c.a)+" and "+shown(c.b), []any{is, e}, []any{c.want, api.OK})
	}
}

// P3.2: Meet and Same ask for the same names in the same order; the first set's error goes ahead.
func TestOtherNames(t *testing.T) {
	for _, c := range [][2]string{{"i 0 1, j 0 1", "j 0 1, i 0 1"}, {"i 0 1", "j 0 1"}, {"i 0 1", "i 0 1, j 0 1"}, {"i 0 1, j 0 1", "i 0 1"}, {"", "i 0 1"}, {"i 1 0", ""}} {
		a, b := set(c[0]), set(c[1])
		a.Conds, b.Conds = repeated("1", 40), repeated("1", 40)
		m, e := affine.Meet(a, b)
		same(t, "Meet", []any{m, e}, []any{api.Set{}, api.ErrForm})
		is, e := affine.Same(a, b)
		same(t, "Same", []any{is, e}, []any{false, api.ErrForm})
	}
	m, e := affine.Meet(wrong(), set("i 0 200000"))
	same(t, "Meet", []any{m, e}, []any{api.Set{}, api.ErrTwice})
	is, e := affine.Same(set("i 0 200000"), wrong())
	same(t, "Same", []any{is, e}, []any{false, api.ErrFull})
}

// P3.2: Image.
func TestImage(t *testing.T) {
	for _, c := range []struct {
		set  api.Set
		l    []api.Form
		want int
	}{
		{triangle(), forms("i + j"), 9},
		{triangle(), forms("i", "j"), 15},
		{triangle(), forms("j", "i"), 15},
		{triangle(), forms("i", "i", "i"), 5},
		{triangle(), forms("2*i", "2*j + 2*i"), 15},
		{triangle(), forms("0", "-7"), 1},
		{triangle(), nil, 1},
		{triangle(), forms("i + 1", "i - j", "0", "j", "j", "j", "1000*j", "3"), 15},
		{set("i -3 3"), forms("3*i - 3"), 7},
		{set("i 1 0"), forms("i"), 0},
		{set("i 1 0"), nil, 0},
		{api.Set{}, forms("3"), 1},
		{api.Set{}, nil, 1},
		{set("", "-1"), nil, 0},
		{set("i 1 200, j 1 1000"), forms("1000*i + j - 7"), 200_000},
		{set("i 1 200, j 1 1000"), forms("i + j"), 1_199},
	} {
		n, e := affine.Image(c.set, c.l)
		same(t, shown(c.set)+" "+texts(c.l), []any{n, e}, []any{c.want, api.OK})
	}
}

// P3.2: Projected.
func TestProjected(t *testing.T) {
	odd := set("z -1 1, a 0 2, k 5 5", "z + a - 1", "2*z - a + 2")
	for _, c := range []struct {
		set   api.Set
		names []string
		want  [][]int
	}{
		{triangle(), []string{"i"}, [][]int{{0}, {1}, {2}, {3}, {4}}},
		{triangle(), []string{"j"}, [][]int{{0}, {1}, {2}, {3}, {4}}},
		{odd, []string{"z", "a", "k"}, [][]int{{0, 1, 5}, {0, 2, 5}, {1, 0, 5}, {1, 1, 5}, {1, 2, 5}}},
		{odd, []string{"k", "a", "z"}, [][]int{{5, 0, 1}, {5, 1, 0}, {5, 1, 1}, {5, 2, 0}, {5, 2, 1}}},
		{odd, []string{"a", "z"}, [][]int{{0, 1}, {1, 0}, {1, 1}, {2, 0}, {2, 1}}},
		{odd, []string{"a"}, [][]int{{0}, {1}, {2}}},
		{odd, []string{"z"}, [][]int{{0}, {1}}},
		{odd, []string{"k"}, [][]int{{5}}},
		{odd, nil, [][]int{{}}},
		{set("i 0 9", "2*i - 7", "11 - 2*i"), []string{"i"}, [][]int{{4}, {5}}},
		{set("i -3 3, j 0 1", "i - 2*j", "-i"), []string{"i"}, [][]int{{0}}},
		{set("i 1 0"), []string{"i"}, nil},
		{set("i 1 0"), nil, nil},
		{api.Set{}, nil, [][]int{{}}},
		{set("", "-1"), nil, nil},
	} {
		l, e := affine.Projected(c.set, c.names)
		same(t, shown(c.set), []any{l, e}, []any{c.want, api.OK})
	}
}

// P3.2: errors of Projected.
func TestProjectedErrors(t *testing.T) {
	refuse := func(want api.Errno, s api.Set, names ...string) {
		t.Helper()
		l, e := affine.Projected(s, names)
		same(t, shown(s), []any{l, e}, []any{[][]int{}, want})
	}
	for _, name := range noNames() {
		refuse(api.ErrName, triangle(), "i", name, "x")
		refuse(api.ErrName, set("i 1 0"), name)
	}
	refuse(api.ErrNone, triangle(), "i", "x", "", "i")
	refuse(api.ErrNone, triangle(), "x", "x")
	refuse(api.ErrNone, api.Set{}, "x")
	refuse(api.ErrTwice, triangle(), "i", "j", "i", "")
	refuse(api.ErrTwice, triangle(), "j", "j", "x")
	refuse(api.ErrLarge, triangle(), slices.Repeat([]string{""}, 9)...)
	refuse(api.ErrName, triangle(), slices.Repeat([]string{""}, 8)...)
	refuse(api.ErrFull, set("i 0 1, j 1 5001"), "j")
	refuse(api.ErrFull, set("j 1 5001, i 0 1"), "j")
	refuse(api.ErrFull, set("i 0 1, j 1 2501"), "j", "i")
	refuse(api.ErrTwice, set("i 1 5001"), "i", "i")
	l, e := affine.Projected(set("i 0 1, j 1 5000"), []string{"j"})
	same(t, "5000 lists", []any{len(l), l[4999], e}, []any{5_000, []int{5_000}, api.OK})
	eight := api.Set{Sides: many(8)}
	l, e = affine.Projected(eight, []string{"v7", "v0", "v1", "v2", "v3", "v4", "v5", "v6"})
	same(t, "8 variables", []any{l, e}, []any{[][]int{make([]int, 8)}, api.OK})
}
