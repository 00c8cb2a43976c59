package diff_test

import (
	"fmt"
	"slices"
	"testing"

	"warpbeam/api"
	"warpbeam/diff"
	"warpbeam/nest"
)

// P9.2: the forward program is that which the rules tell, and computes what dual numbers do.
func TestForwardIsAsNaive(t *testing.T) {
	g := dice(2)
	for range 400 {
		p := g.program(t)
		q, e := diff.Forward(p)
		same(t, textOf(p), []any{textOf(q), e}, []any{textOf(naiveForward(p)), api.OK})
		in, d := g.values(p), g.values(p)
		v, slopes, _ := diff.Dual(p, in, d)
		both := slices.Clone(in)
		ends := slices.Clone(v)
		for i, x := range d {
			both = append(both, grid(x.Key+"_d", x.Values...))
			ends = append(ends, grid(x.Key+"_d", slopes[i].Values...))
		}
		slices.SortFunc(both, func(x, y api.Grid) int { return compare(x.Key, y.Key) })
		slices.SortFunc(ends, func(x, y api.Grid) int { return compare(x.Key, y.Key) })
		same(t, textOf(p), ran(t, q, both), ends)
	}
}

// P9.2 and P9.3: derivatives are as the chapter says, instance by instance.
func TestDerivativesAreAsNaive(t *testing.T) {
	g := dice(3)
	many := 0
	for range 400 {
		p := g.program(t)
		in, d := g.values(p), g.values(p)
		some, few := g.some(in), g.some(d)
		zero := unit(p, "", 0)
		full := func(l []api.Grid) []api.Grid {
			all := slices.Clone(zero)
			for i := range all {
				for _, x := range l {
					if x.Key == all[i].Key {
						all[i] = x
					}
				}
			}
			return all
		}
		what := textOf(p, some, few)
		v, slopes, e := diff.Dual(p, some, few)
		wantV, wantSlopes := naiveDual(t, p, full(some), full(few))
		same(t, what, []any{v, slopes, e}, []any{wantV, wantSlopes, api.OK})
		same(t, what, v, ran(t, p, some))
		first, e := diff.Gradient(p, some, few)
		same(t, what, []any{first, e}, []any{naiveGradient(t, p, full(some), full(few)), api.OK})
		if fmt.Sprint(slopes) != fmt.Sprint(first) {
			many++
		}
	}
	if many < 300 {
		t.Error("too few", many)
	}
}

// P9.5: whichever array is larger.
func TestJacobianIsAsNaive(t *testing.T) {
	g := dice(4)
	zeros, others := 0, 0
	for range 120 {
		p := g.program(t)
		in := g.values(p)
		for _, from := range []string{"a", "b", "c"} {
			for _, to := range []string{"a", "b", "c"} {
				m, e := diff.Jacobian(p, in, from, to)
				want := naiveJacobian(t, p, in, from, to)
				same(t, textOf(p, in, from, to), []any{m, e}, []any{want, api.OK})
				for _, row := range m {
					for _, n := range row {
						if n == 0 {
							zeros++
						} else if n != 1 {
							others++
						}
					}
				}
			}
		}
	}
	if min(zeros, others) < 300 {
		t.Error("too few", zeros, others)
	}
}

// What follows: the gradient is the Jacobian transposed times out; derivatives of sums of directions are sums.
func TestWhatFollowsOfDerivatives(t *testing.T) {
	g := dice(5)
	for range 200 {
		p := g.program(t)
		in, out, d, f := g.values(p), g.values(p), g.values(p), g.values(p)
		want := spotsOf(unit(p, "", 0))
		for _, from := range p.Arrays {
			for _, to := range p.Arrays {
				m, _ := diff.Jacobian(p, in, from.Key, to.Key)
				for i, row := range m {
					for k, n := range row {
						s := api.Spot{Array: from.Key, Cell: k}
						want[s] = modulo(want[s] + n*valuesOf(out, to.Key)[i])
					}
				}
			}
		}
		same(t, textOf(p), gradient(t, p, in, out), gridsOf(p, want))
		same(t, textOf(p), dual(t, p, in, sumOf(p, d, f)), sumOf(p, dual(t, p, in, d), dual(t, p, in, f)))
		same(t, textOf(p), gradient(t, p, in, sumOf(p, d, f)), sumOf(p, gradient(t, p, in, d), gradient(t, p, in, f)))
		// Each direction and each out agree on how much one hangs on the other.
		same(t, textOf(p), product(dual(t, p, in, d), out), product(d, gradient(t, p, in, out)))
	}
}

// sumOf are grids of all arrays, added up.
func sumOf(p api.Program, a, b []api.Grid) []api.Grid {
	return forAll(p, func(key string, cell int) int { return modulo(valuesOf(a, key)[cell] + valuesOf(b, key)[cell]) })
}

// product is the sum of all values of grids times those of others.
func product(a, b []api.Grid) int {
	n := 0
	for i, x := range a {
		for cell, value := range x.Values {
			n = modulo(n + value*b[i].Values[cell])
		}
	}
	return n
}

// Derivatives are those of the values: along a line, values are a polynomial, whose derivative at the beginning is found from as many values as it has at least.
func TestDerivativesAreThoseOfValues(t *testing.T) {
	g := dice(6)
	many := 0
	for range 400 {
		p := g.program(t)
		most := greatestDegree(t, p)
		if most > 12 {
			continue
		}
		many++
		in, d := g.values(p), g.values(p)
		var along [][]api.Grid
		for step := range most + 1 {
			at := forAll(p, func(key string, cell int) int {
				return modulo(valuesOf(in, key)[cell] + step*valuesOf(d, key)[cell])
			})
			along = append(along, ran(t, p, at))
		}
		weights := slopeWeights(most)
		want := forAll(p, func(key string, cell int) int {
			n := 0
			for step, w := range weights {
				n = modulo(n + w*valuesOf(along[step], key)[cell])
			}
			return n
		})
		same(t, textOf(p, in, d), dual(t, p, in, d), want)
	}
	if many < 300 {
		t.Error("too few", many)
	}
}

// greatestDegree is a number that the degree of no cell at the end in those at first is above.
func greatestDegree(t *testing.T, p api.Program) int {
	t.Helper()
	degrees := spotsOf(forAll(p, func(string, int) int { return 1 }))
	naiveRun(t, p, unit(p, "", 0), func(m moment, at api.Spot) int {
		var degree func(x api.Expr) int
		degree = func(x api.Expr) int {
			switch x.Op {
			case api.OpNumber, api.OpForm:
				return 0
			case api.OpRead:
				return degrees[m.spot(t, x.Array, x.Subs)]
			case api.OpMul:
				return min(degree(x.Args[0])+degree(x.Args[1]), 1_000)
			}
			return max(degree(x.Args[0]), degree(x.Args[1]))
		}
		degrees[at] = degree(m.statement.Expr)
		return 0
	})
	most := 0
	for _, n := range degrees {
		most = max(most, n)
	}
	return most
}

// slopeWeights are how much the values of a polynomial at 0, 1 up to its degree count for its derivative at 0.
func slopeWeights(most int) []int {
	var l []int
	for at := range most + 1 {
		// The polynomial that is 1 at this place, and 0 at the others, is a product: its derivative at 0 is a sum, with one factor less each time.
		slope := 0
		for out := range most + 1 {
			if out == at {
				continue
			}
			term := 1
			for other := range most + 1 {
				if other != at && other != out {
					term = modulo(-term * other)
				}
			}
			slope += term
		}
		below := 1
		for other := range most + 1 {
			if other != at {
				below = modulo(below * (at - other))
			}
		}
		l = append(l, modulo(modulo(slope)*power(below, api.Prime-2)))
	}
	return l
}

func power(n, times int) int {
	product := 1
	for ; times > 0; times /= 2 {
		if times%2 == 1 {
			product = modulo(product * n)
		}
		n = modulo(n * n)
	}
	return product
}

// P9.4: any expressions, and those that are mostly linear.
func TestLinearIsAsNaive(t *testing.T) {
	g := dice(7)
	count := map[bool]int{}
	for i := range 3_000 {
		text := g.expr([]string{"i", "j"}, 1)
		if i%2 > 0 {
			text = g.line([]string{"i", "j"}, 1) + g.one("", "", " + 0 * "+text, " + "+text)
		}
		p := program(t, around+text+"; } }")
		is := isLinear(t, p)
		same(t, text, is, naiveLinear(expr(t, text)))
		count[is]++
		// What follows: a linear program has degrees of at most 1.
		if n, _ := diff.Degree(p, "s"); is && n > 1 {
			t.Error("degree of", text, n)
		}
	}
	if min(count[false], count[true]) < 800 {
		t.Error("too few", count)
	}
	for range 300 {
		g.linear = g.below(2) > 0
		p := g.program(t)
		same(t, textOf(p), isLinear(t, p), naiveLinearAll(t, p))
	}
}

// What follows: a transposed program computes the gradient, and, transposed again, does what the program does.
func TestWhatFollowsOfTransposed(t *testing.T) {
	g := dice(8)
	g.linear = true
	for range 400 {
		p := g.program(t)
		q, e := diff.Transposed(p)
		same(t, textOf(p), []any{textOf(q), e}, []any{textOf(naiveTransposed(t, p)), api.OK})
		in, out := g.values(p), g.values(p)
		want := gradient(t, p, in, out)
		// What t_b has at first is never read.
		for _, first := range []int{0, g.below(api.Prime)} {
			got := ran(t, q, append(slices.Clone(out), grid("t_b", first)))
			same(t, textOf(p), ownOf(p, got), want)
		}
		renamed, _ := nest.Renamed(q, []api.Pair{{Name: "t_b", Value: "u_b"}})
		same(t, textOf(q), isLinear(t, renamed), true)
		back, e := diff.Transposed(renamed)
		same(t, textOf(p), []any{textOf(back), e}, []any{textOf(naiveTransposed(t, renamed)), api.OK})
		same(t, textOf(p), ownOf(p, ran(t, back, in)), ran(t, p, in))
		// A linear program is its own derivative, wherever it is.
		same(t, textOf(p), dual(t, p, out, in), ran(t, p, in))
		same(t, textOf(p), ran(t, p, sumOf(p, in, out)), sumOf(p, ran(t, p, in), ran(t, p, out)))
	}
}

// ownOf are the grids of the arrays of a program.
func ownOf(p api.Program, l []api.Grid) []api.Grid {
	return forAll(p, func(key string, cell int) int { return valuesOf(l, key)[cell] })
}
