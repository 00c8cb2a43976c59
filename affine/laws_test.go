package affine_test

import (
	"fmt"
	"slices"
	"strconv"
	"strings"
	"testing"

	"warpbeam/affine"
	"warpbeam/api"
	"warpbeam/nest"
	"warpbeam/run"
)

// valueAt is the value of a form at a point of a set.
func valueAt(t *testing.T, s api.Set, f api.Form, x []int) int {
	t.Helper()
	var p api.Point
	for i, side := range s.Sides {
		p = append(p, api.Slot{Name: side.Name, Value: x[i]})
	}
	slices.SortFunc(p, func(a, b api.Slot) int { return strings.Compare(a.Name, b.Name) })
	n, e := nest.Value(f, p)
	same(t, "Value", e, api.OK)
	return n
}

// boxed are all points of a box, in order.
func boxed(sides []api.Side) [][]int {
	l := [][]int{{}}
	for _, s := range sides {
		var next [][]int
		for _, x := range l {
			for n := s.Low; n <= s.High; n++ {
				next = append(next, append(slices.Clone(x), n))
			}
		}
		l = next
	}
	return l
}

// naive are the points of a set, found one by one.
func naive(t *testing.T, s api.Set) [][]int {
	t.Helper()
	return slices.DeleteFunc(boxed(s.Sides), func(x []int) bool {
		return slices.ContainsFunc(s.Conds, func(f api.Form) bool { return valueAt(t, s, f, x) < 0 })
	})
}

// different are the different lists that are made of points, in order.
func different(l [][]int, change func(x []int) []int) [][]int {
	var out [][]int
	for _, x := range l {
		out = append(out, change(x))
	}
	slices.SortFunc(out, slices.Compare)
	return slices.CompactFunc(out, slices.Equal)
}

func contains(l [][]int, x []int) bool {
	return slices.ContainsFunc(l, func(y []int) bool { return slices.Equal(x, y) })
}

// sets are small sets of all sorts.
func sets(visit func(g *gen, s api.Set)) {
	for seed := range 1500 {
		g := dice(uint64(seed))
		visit(g, g.set())
	}
}

// P3.1: points that are listed are all, and no others.
func TestPointsAreAll(t *testing.T) {
	empty, some := 0, 0
	sets(func(g *gen, s api.Set) {
		want := naive(t, s)
		checkPoints(t, s, want)
		if len(want) == 0 {
			empty++
		} else {
			some++
		}
		for _, x := range boxed(s.Sides) {
			is, e := affine.Has(s, x)
			same(t, "Has "+shown(s), []any{x, is, e}, []any{x, contains(want, x), api.OK})
		}
	})
	if empty < 200 || some < 200 {
		t.Errorf("%d sets are empty, %d are not", empty, some)
	}
}

// P3.2: values of forms, found point by point.
func TestValuesAreThose(t *testing.T) {
	sets(func(g *gen, s api.Set) {
		l := naive(t, s)
		f := g.form(s, 5)
		var values []int
		for _, x := range l {
			values = append(values, valueAt(t, s, f, x))
		}
		low, high, some, e := affine.Range(s, f)
		is, e2 := affine.Implies(s, f)
		what := shown(s) + " " + texts([]api.Form{f})
		if len(values) == 0 {
			same(t, what, []any{low, high, some, e, is, e2}, []any{0, 0, false, api.OK, true, api.OK})
		} else {
			same(t, what, []any{low, high, some, e, is, e2}, []any{slices.Min(values), slices.Max(values), true, api.OK, slices.Min(values) >= 0, api.OK})
		}
		fs := []api.Form{f, g.form(s, 1), g.form(s, 2)}[:g.below(4)]
		n, e := affine.Image(s, fs)
		want := different(l, func(x []int) []int {
			var y []int
			for _, f := range fs {
				y = append(y, valueAt(t, s, f, x))
			}
			return y
		})
		same(t, "Image "+what, []any{n, e}, []any{len(want), api.OK})
	})
}

// P3.2: projected lists, found point by point.
func TestProjectedIsAll(t *testing.T) {
	sets(func(g *gen, s api.Set) {
		var places []int
		for i := range s.Sides {
			if g.below(3) > 0 {
				places = slices.Insert(places, g.below(len(places)+1), i)
			}
		}
		var names []string
		for _, i := range places {
			names = append(names, s.Sides[i].Name)
		}
		l, e := affine.Projected(s, names)
		want := different(naive(t, s), func(x []int) []int {
			var y []int
			for _, i := range places {
				y = append(y, x[i])
			}
			return y
		})
		same(t, shown(s)+fmt.Sprint(names), []any{l, e}, []any{want, api.OK})
	})
}

// P3.2: sets that meet have the points of both; sets are the same if their points are.
func TestMeetHasBoth(t *testing.T) {
	alike := 0
	sets(func(g *gen, a api.Set) {
		b := api.Set{Sides: slices.Clone(a.Sides)}
		for i := range b.Sides {
			b.Sides[i].Low += g.from(-1, 1)
			b.Sides[i].High += g.from(-1, 1)
		}
		b.Conds = append(slices.Clone(a.Conds), g.form(a, 2))
		m, e := affine.Meet(a, b)
		same(t, shown(a)+" and "+shown(b), e, api.OK)
		x, y := points(t, a), points(t, b)
		both := slices.DeleteFunc(slices.Clone(x), func(p []int) bool { return !contains(y, p) })
		same(t, shown(m), points(t, m), both)
		is, e := affine.Same(a, b)
		same(t, shown(a)+" and "+shown(b), []any{is, e}, []any{slices.EqualFunc(x, y, slices.Equal), api.OK})
		if is && len(x) > 0 {
			alike++
		}
	})
	if alike < 50 {
		t.Errorf("just %d are the same", alike)
	}
}

// P3.3: a set is the same when it is made tight, and stays so.
func TestTightIsSame(t *testing.T) {
	sets(func(g *gen, s api.Set) {
		x, e := affine.Tight(s)
		same(t, shown(s), e, api.OK)
		is, e := affine.Same(s, x)
		same(t, shown(s)+" and "+shown(x), []any{is, e}, []any{true, api.OK})
		y, e := affine.Tight(x)
		same(t, shown(x), []any{shown(y), e}, []any{shown(x), api.OK})
		seen := map[string]bool{}
		for _, f := range x.Conds {
			terms := fmt.Sprint(f.Terms)
			if seen[terms] || len(f.Terms) == 0 && f.Const >= 0 {
				t.Errorf("%s stays in %s", texts([]api.Form{f}), shown(x))
			}
			seen[terms] = true
		}
	})
}

// P3.3: the shadow of a set has all projected points, and no others if the variable has no other coefficients than 1 and -1.
func TestShadowHasProjected(t *testing.T) {
	exact, more := 0, 0
	sets(func(g *gen, s api.Set) {
		if len(s.Sides) == 0 {
			return
		}
		at := g.below(len(s.Sides))
		name := s.Sides[at].Name
		x, e := affine.Shadow(s, name)
		same(t, shown(s), []any{e, x.Sides}, []any{api.OK, append(slices.Clone(s.Sides[:at]), s.Sides[at+1:]...)})
		want := different(naive(t, s), func(x []int) []int { return append(slices.Clone(x[:at]), x[at+1:]...) })
		got := points(t, x)
		if isUnit(s, name) {
			exact++
			same(t, shown(s)+" without "+name, got, want)
		}
		for _, y := range want {
			is, e := affine.Has(x, y)
			same(t, shown(s)+" without "+name, []any{y, is, e}, []any{y, true, api.OK})
		}
		if len(got) > len(want) {
			more++
		}
	})
	if exact < 200 || more == 0 {
		t.Errorf("%d are exact, %d have more points", exact, more)
	}
}

// isUnit reports whether a variable has just the coefficients 1 and -1.
func isUnit(s api.Set, name string) bool {
	for _, f := range s.Conds {
		for _, x := range f.Terms {
			if x.Name == name && x.Coef != 1 && x.Coef != -1 {
				return false
			}
		}
	}
	return true
}

// P3.3: a mapped set has the points at which the form is the value of the variable.
func TestMappedHasThose(t *testing.T) {
	some := 0
	sets(func(g *gen, s api.Set) {
		if len(s.Sides) == 0 {
			return
		}
		at := g.below(len(s.Sides))
		others := api.Set{Sides: append(slices.Clone(s.Sides[:at]), s.Sides[at+1:]...)}
		by := g.form(others, 2)
		x, e := affine.Mapped(s, s.Sides[at].Name, by)
		same(t, shown(s), []any{e, x.Sides, len(x.Conds)}, []any{api.OK, others.Sides, len(s.Conds) + 2})
		want := slices.DeleteFunc(boxed(others.Sides), func(y []int) bool {
			is, e := affine.Has(s, slices.Insert(slices.Clone(y), at, valueAt(t, others, by, y)))
			return !is || e != api.OK
		})
		same(t, shown(s)+" "+s.Sides[at].Name+" by "+texts([]api.Form{by}), points(t, x), want)
		some += len(want)
	})
	if some < 500 {
		t.Errorf("just %d points", some)
	}
}

// P3.4: a domain has just the instances that a run does, in their order.
func TestDomainIsRun(t *testing.T) {
	done := 0
	for seed := range 600 {
		p, count := dice(uint64(seed)).program(t)
		l, e := run.Instances(p)
		same(t, "Instances", e, api.OK)
		done += len(l)
		for i := range count {
			key := "s" + strconv.Itoa(i+1)
			var want [][]int
			for _, x := range l {
				if x.Key == key {
					want = append(want, x.Values)
				}
			}
			d, e := affine.Domain(p, key)
			same(t, "Domain", e, api.OK)
			text, _ := nest.Text(p)
			same(t, text+key, points(t, d), want)
		}
	}
	if done < 5_000 {
		t.Errorf("just %d instances", done)
	}
}
