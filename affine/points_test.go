package affine_test

import (
	"testing"

	"warpbeam/affine"
	"warpbeam/api"
)

// checkPoints checks all that is said of the points of a set.
func checkPoints(t *testing.T, s api.Set, want [][]int) {
	t.Helper()
	what := shown(s)
	l, e := affine.Points(s)
	same(t, "Points "+what, []any{l, e}, []any{want, api.OK})
	n, e := affine.Count(s)
	same(t, "Count "+what, []any{n, e}, []any{len(want), api.OK})
	least, some, e := affine.Least(s)
	var first, last []int
	if len(want) > 0 {
		first, last = want[0], want[len(want)-1]
	}
	same(t, "Least "+what, []any{least, some, e}, []any{first, len(want) > 0, api.OK})
	greatest, some, e := affine.Greatest(s)
	same(t, "Greatest "+what, []any{greatest, some, e}, []any{last, len(want) > 0, api.OK})
	for _, x := range want {
		is, e := affine.Has(s, x)
		same(t, "Has "+what, []any{x, is, e}, []any{x, true, api.OK})
	}
}

// P3.1: points in order.
func TestPoints(t *testing.T) {
	checkPoints(t, triangle(), [][]int{{0, 0}, {0, 1}, {0, 2}, {0, 3}, {0, 4}, {1, 1}, {1, 2}, {1, 3}, {1, 4}, {2, 2}, {2, 3}, {2, 4}, {3, 3}, {3, 4}, {4, 4}})
	checkPoints(t, set("i -1 1"), [][]int{{-1}, {0}, {1}})
	checkPoints(t, set("i -1 1", "i"), [][]int{{0}, {1}})
	checkPoints(t, set("i 5 5"), [][]int{{5}})
	checkPoints(t, set("z 0 1, a -2 -1"), [][]int{{0, -2}, {0, -1}, {1, -2}, {1, -1}})
	checkPoints(t, set("z 0 3, a 0 3", "2*a - 3*z", "a + z - 3"), [][]int{{0, 3}, {1, 2}, {1, 3}, {2, 3}})
	checkPoints(t, set("i 0 9", "2*i - 7", "3*i - 7", "17 - 3*i"), [][]int{{4}, {5}})
	checkPoints(t, set("i 0 1, j 0 1, k 0 1", "i - j", "k - j", "i + j + k - 1", "2 - i - j - k"), [][]int{{0, 0, 1}, {1, 0, 0}, {1, 0, 1}})
	checkPoints(t, set("i 0 1, j 0 1, k 0 1", "i - k"), [][]int{{0, 0, 0}, {0, 1, 0}, {1, 0, 0}, {1, 0, 1}, {1, 1, 0}, {1, 1, 1}})
}

// P3.1: sets without points, and without sides.
func TestPointsOfSmallSets(t *testing.T) {
	checkPoints(t, api.Set{}, [][]int{{}})
	checkPoints(t, set("", "0", "7"), [][]int{{}})
	checkPoints(t, set("", "0", "-1"), nil)
	checkPoints(t, set("i 0 9", "-1"), nil)
	checkPoints(t, set("i 0 9", "i - 10"), nil)
	checkPoints(t, set("i 0 9, j 0 9", "i - j", "j - i - 1"), nil)
	checkPoints(t, set("i 1 0"), nil)
	checkPoints(t, set("i 0 9, j 1 0, k 0 9"), nil)
	// The box has no points, however long its other sides are.
	checkPoints(t, set("i -1000000 1000000, j -1000000 1000000, k -1000000 1000000, l 1000000 -1000000"), nil)
	checkPoints(t, set("l 1 0, i -1000000 1000000, j -1000000 1000000"), nil)
}

// P3.1: Has.
func TestHas(t *testing.T) {
	s := set("b -2 4, a -2 4", "2*a - b")
	for b := -4; b <= 6; b++ {
		for a := -4; a <= 6; a++ {
			is, e := affine.Has(s, []int{b, a})
			same(t, "Has", []any{b, a, is, e}, []any{b, a, -2 <= a && a <= 4 && -2 <= b && b <= 4 && 2*a >= b, api.OK})
		}
	}
	for _, x := range [][]int{nil, {0}, {0, 0, 0}, {9}, {9, 9, 9}} {
		is, e := affine.Has(s, x)
		same(t, "Has", []any{is, e}, []any{false, api.ErrForm})
		is, e = affine.Has(set("i 1 0, j 1 0"), x)
		same(t, "Has", []any{is, e}, []any{false, api.ErrForm})
	}
	is, e := affine.Has(api.Set{}, []int{0})
	same(t, "without sides", []any{is, e}, []any{false, api.ErrForm})
	is, e = affine.Has(set("i 1 0"), []int{1})
	same(t, "an empty side", []any{is, e}, []any{false, api.OK})
	for _, n := range extremes() {
		for _, x := range [][]int{{n, 0}, {0, n}, {n, n}} {
			is, e := affine.Has(set("a 0 9, b 0 9", "1000*a + 999*b", "-1000*a - 999*b", "0"), x)
			same(t, "Has", []any{x, is, e}, []any{x, false, api.OK})
		}
	}
}

// P3.1: at most MaxPoints points are listed; functions that list none go on.
func TestManyPoints(t *testing.T) {
	l, e := affine.Points(set("i 1 5000"))
	same(t, "5000", []any{len(l), l[0], l[4999], e}, []any{5_000, []int{1}, []int{5_000}, api.OK})
	l, e = affine.Points(set("i 1 5001"))
	same(t, "5001", []any{l, e}, []any{[][]int{}, api.ErrFull})
	l, e = affine.Points(set("i 1 200000", "i - 195001"))
	same(t, "the last 5000", []any{len(l), l[0], l[4999], e}, []any{5_000, []int{195_001}, []int{200_000}, api.OK})
	l, e = affine.Points(set("i 1 200, j 1 1000"))
	same(t, "200000", []any{l, e}, []any{[][]int{}, api.ErrFull})
	s := set("i 1 200, j 1 1000", "i + j - 3")
	n, e := affine.Count(s)
	same(t, "Count", []any{n, e}, []any{199_999, api.OK})
	x, ok, e := affine.Least(s)
	same(t, "Least", []any{x, ok, e}, []any{[]int{1, 2}, true, api.OK})
	x, ok, e = affine.Greatest(s)
	same(t, "Greatest", []any{x, ok, e}, []any{[]int{200, 1000}, true, api.OK})
	n, e = affine.Count(set("a -3 6, b 0 9, c 0 9, d 0 9, e 0 1, f 0 1, g 0 4, h 7 7"))
	same(t, "Count", []any{n, e}, []any{200_000, api.OK})
}

// Z6: values of conditions are not limited.
func TestGreatValues(t *testing.T) {
	s := api.Set{}
	var f api.Form
	for _, name := range []string{"a", "b", "c", "d", "e", "f", "g", "h"} {
		s.Sides = append(s.Sides, api.Side{Name: name, Low: api.MaxConst - 1, High: api.MaxConst})
		f.Terms = append(f.Terms, api.Term{Name: name, Coef: api.MaxCoef})
	}
	f.Const = api.MaxConst
	s.Conds = []api.Form{f}
	low, high, some, e := affine.Range(s, f)
	same(t, "Range", []any{low, high, some, e}, []any{8_000_992_000, 8_001_000_000, true, api.OK})
	n, e := affine.Count(s)
	same(t, "Count", []any{n, e}, []any{256, api.OK})
	for i := range f.Terms {
		f.Terms[i].Coef = -api.MaxCoef
	}
	n, e = affine.Count(s)
	same(t, "Count", []any{n, e}, []any{0, api.OK})
}
