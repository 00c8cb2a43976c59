package emit_test

import (
	"fmt"
	"math/big"
	"slices"
	"strings"
	"testing"

	"warpbeam/affine"
	"warpbeam/api"
	"warpbeam/emit"
	"warpbeam/nest"
	"warpbeam/run"
	"warpbeam/schedule"
)

// vector is a form as fractions: of each of some variables, and of 1 at the end.
type vector []*big.Rat

func vectorOf(f api.Form, names []string) vector {
	v := make(vector, len(names)+1)
	for i := range v {
		v[i] = new(big.Rat)
	}
	for _, x := range f.Terms {
		v[slices.Index(names, x.Name)].SetInt64(int64(x.Coef))
	}
	v[len(names)].SetInt64(int64(f.Const))
	return v
}

// add adds another one, times a factor.
func (v vector) add(o vector, factor *big.Rat) {
	for i := range v {
		v[i].Add(v[i], new(big.Rat).Mul(o[i], factor))
	}
}

// reduced is rows in a form in which each one begins where no other one has anything; each row has columns, and then further numbers.
func reduced(rows []vector, columns int) ([]vector, *big.Rat) {
	var l []vector
	for _, r := range rows {
		l = append(l, slices.Clone(r))
		for i, x := range r {
			l[len(l)-1][i] = new(big.Rat).Set(x)
		}
	}
	determinant := big.NewRat(1, 1)
	done := 0
	for column := range columns {
		at := slices.IndexFunc(l[done:], func(v vector) bool { return v[column].Sign() != 0 })
		if at < 0 {
			continue
		}
		if at > 0 {
			determinant.Neg(determinant)
		}
		l[done], l[done+at] = l[done+at], l[done]
		determinant.Mul(determinant, l[done][column])
		scale := new(big.Rat).Inv(l[done][column])
		for i := range l[done] {
			l[done][i] = new(big.Rat).Mul(l[done][i], scale)
		}
		for i := range l {
			if i != done {
				l[i].add(l[done], new(big.Rat).Neg(l[i][column]))
			}
		}
		done++
	}
	return l[:done], determinant
}

// naiveScan is what the chapter says of Scan.
type naiveScan struct {
	p     api.Program
	l     []api.Plan
	names []string
}

// solved is the solution of a plan, as fractions of t0, t1 .. and of 1, and which of its rows are used.
func (n *naiveScan) solved(x api.Plan, loops []string) ([]vector, []bool, bool) {
	var rows []vector
	var used []int
	is := make([]bool, len(x.Times))
	for k, f := range x.Times {
		row := vectorOf(f, loops)
		// Of the loops, behind them of t0, t1 .. and of 1.
		wide := append(slices.Clone(row[:len(loops)]), vectorOf(api.Form{Const: -f.Const, Terms: []api.Term{{Name: n.names[k], Coef: 1}}}, n.names)...)
		all, _ := reduced(append(slices.Clone(rows), wide), len(loops))
		if len(all) > len(rows) {
			rows = append(rows, wide)
			used = append(used, k)
			is[k] = true
		}
	}
	if len(used) != len(loops) {
		return nil, nil, false
	}
	all, determinant := reduced(rows, len(loops))
	if d := determinant.RatString(); d != "1" && d != "-1" {
		return nil, nil, false
	}
	var l []vector
	for _, r := range all {
		l = append(l, r[len(loops):])
	}
	return l, is, true
}

// put is a form with the solution in it.
func (n *naiveScan) put(f api.Form, loops []string, by []vector) vector {
	v := vectorOf(api.Form{Const: f.Const}, n.names)
	for _, x := range f.Terms {
		v.add(by[slices.Index(loops, x.Name)], big.NewRat(int64(x.Coef), 1))
	}
	return v
}

// form is a vector as a form, and whether it is within the limits.
func (n *naiveScan) form(v vector) (api.Form, bool) {
	number := func(x *big.Rat, most int64) (int, bool) {
		return int(x.Num().Int64()), x.IsInt() && new(big.Rat).Abs(x).Cmp(big.NewRat(most, 1)) <= 0
	}
	last := len(n.names)
	c, fits := number(v[last], api.MaxConst)
	f := api.Form{Const: c}
	for i, name := range n.names {
		if v[i].Sign() != 0 {
			c, small := number(v[i], api.MaxCoef)
			fits = fits && small
			f.Terms = append(f.Terms, api.Term{Name: name, Coef: c})
		}
	}
	return f, fits
}

// step is what a statement becomes, or the error.
func (n *naiveScan) step(x api.Plan) (api.Step, api.Errno) {
	set, around, _ := nest.Statement(n.p, x.Key)
	var loops []string
	for _, s := range around {
		if s.Kind == api.StepLoop {
			loops = append(loops, s.Name)
		}
	}
	by, used, is := n.solved(x, loops)
	if !is {
		return api.Step{}, api.ErrState
	}
	d, e := affine.Domain(n.p, x.Key)
	if e != api.OK {
		return api.Step{}, e
	}
	fits := true
	put := func(f api.Form) api.Form {
		g, small := n.form(n.put(f, loops, by))
		fits = fits && small
		return g
	}
	for _, v := range by {
		_, small := n.form(v)
		fits = fits && small
	}
	var conds []api.Form
	for k, f := range x.Times {
		if used[k] {
			continue
		}
		for _, sign := range []int64{1, -1} {
			v := vectorOf(api.Form{}, n.names)
			v.add(n.put(f, loops, by), big.NewRat(sign, 1))
			v[k].Sub(v[k], big.NewRat(sign, 1))
			g, small := n.form(v)
			fits = fits && small
			conds = append(conds, g)
		}
	}
	for _, f := range d.Conds {
		if g := put(f); len(g.Terms) > 0 || g.Const < 0 {
			conds = append(conds, g)
		}
	}
	for i, f := range set.Subs {
		set.Subs[i] = put(f)
	}
	set.Expr = exprOf(set.Expr, put)
	if !fits {
		return api.Step{}, api.ErrArg
	}
	for len(conds) > 0 {
		// The last conditions stand in the innermost StepIf.
		first := (len(conds) - 1) / api.MaxBounds * api.MaxBounds
		set = api.Step{Kind: api.StepIf, Conds: conds[first:], Body: []api.Step{set}}
		conds = conds[:first]
	}
	return set, api.OK
}

func exprOf(x api.Expr, put func(api.Form) api.Form) api.Expr {
	if x.Op == api.OpForm {
		x.Form = put(x.Form)
	}
	for i, f := range x.Subs {
		x.Subs[i] = put(f)
	}
	for i, y := range x.Args {
		x.Args[i] = exprOf(y, put)
	}
	return x
}

func (n *naiveScan) scan() (api.Program, api.Errno) {
	q := api.Program{Arrays: n.p.Arrays}
	for _, x := range n.l {
		s, e := n.step(x)
		if e != api.OK {
			return api.Program{}, e
		}
		q.Steps = append(q.Steps, s)
	}
	if _, is, e := schedule.Legal(n.p, n.l); e != api.OK {
		return api.Program{}, e
	} else if !is {
		return api.Program{}, api.ErrRule
	}
	rounds := 1
	for k := len(n.names) - 1; k >= 0; k-- {
		least, most := 0, 0
		for i, x := range n.l {
			d, _ := affine.Domain(n.p, x.Key)
			low, high, some, _ := affine.Range(d, x.Times[k])
			if !some {
				return api.Program{}, api.ErrNone
			}
			if i == 0 {
				least, most = low, high
			}
			least, most = min(least, low), max(most, high)
		}
		rounds = min(rounds*(most-least+1), api.MaxRuns+1)
		bound := func(c int) []api.Bound { return []api.Bound{{Form: api.Form{Const: c}, Div: 1}} }
		q.Steps = []api.Step{{Kind: api.StepLoop, Name: n.names[k], Low: bound(least), High: bound(most), Body: q.Steps}}
	}
	if rounds > api.MaxRuns {
		return api.Program{}, api.ErrFull
	}
	if e := nest.Check(q); e != api.OK {
		return api.Program{}, e
	}
	return q, api.OK
}

// times makes times for loops: most often those of a matrix with the determinant 1 or -1, and others between them.
func (g *gen) times(loops []string, many int) []api.Form {
	n := len(loops)
	m := make([][]int, n)
	for i := range m {
		m[i] = make([]int, n)
		m[i][i] = 1
	}
	for range g.below(4) * n {
		if i, j := g.below(n), g.below(n); i != j {
			factor := 1 - 2*(g.below(4)/3)
			for k := range n {
				m[i][k] += factor * m[j][k]
			}
		}
	}
	if n > 1 && g.below(4) == 0 {
		m[0], m[n-1] = m[n-1], m[0]
	}
	if n > 0 && g.below(12) == 0 {
		m[g.below(n)][g.below(n)] += 1
	}
	var l []api.Form
	for len(m)+len(l) < many || len(m) > 0 {
		f := api.Form{Const: g.below(4)*(g.below(5)/4) - g.below(2)}
		row := make([]int, n)
		if len(m) > 0 && g.below(max(1, many-len(l))) < len(m) {
			row, m = m[0], m[1:]
		} else if g.below(3) == 0 && n > 0 {
			row[g.below(n)] = g.below(5) - 2
		}
		for i, coef := range row {
			if coef != 0 {
				f.Terms = append(f.Terms, api.Term{Name: loops[i], Coef: coef})
			}
		}
		l = append(l, f)
	}
	return l
}

// schedule makes a schedule for a program, most often one with the order of the program at last.
func (g *gen) schedule(p api.Program) []api.Plan {
	names, _ := nest.Statements(p)
	original, _ := schedule.Original(p)
	deep := 0
	around := map[string][]string{}
	for _, key := range names {
		_, l, _ := nest.Statement(p, key)
		for _, s := range l {
			if s.Kind == api.StepLoop {
				around[key] = append(around[key], s.Name)
			}
		}
		deep = max(deep, len(around[key]))
	}
	kind := g.below(4)
	many := max(1, deep+g.below(3))
	var l []api.Plan
	for i, key := range names {
		x := api.Plan{Key: key, Times: g.times(around[key], many)}
		switch {
		case kind == 0 && len(original) > 0:
			x.Times = original[i].Times
		case kind == 1 && len(names) > 1 && many < api.MaxTimes:
			x.Times = append([]api.Form{{Const: i}}, x.Times...)
		}
		l = append(l, x)
	}
	return l
}

// P7.1: what is made is as the chapter says, and computes the same.
func TestScansAreAsNaive(t *testing.T) {
	count := map[api.Errno]int{}
	ifs := 0
	eachProgram(t, 9, 2500, func(g *gen, p api.Program) {
		if k, _ := nest.Statements(p); len(k) > 4 {
			return
		}
		for range 4 {
			l := g.schedule(p)
			e := schedule.Check(p, l)
			same(t, fmt.Sprint(l), e, api.OK)
			n := &naiveScan{p: p, l: l}
			for k := range l[0].Times {
				n.names = append(n.names, fmt.Sprint("t", k))
			}
			text, _ := nest.Text(p)
			want, f := n.scan()
			q, e := emit.Scan(p, l)
			same(t, text+fmt.Sprint(l), made(q, e), made(want, f))
			count[e]++
			if e != api.OK {
				continue
			}
			ifs += strings.Count(made(q, e), "if ") - len(l)
			// Of as many rounds as there are, not all programs can be run.
			if _, e := run.Rounds(q); e != api.ErrFull {
				_, found, e := run.Differ(p, q, [][]api.Grid{nil, g.grids(p)})
				same(t, text+made(q, api.OK), []any{found, e}, []any{false, api.OK})
			}
		}
	})
	if count[api.OK] < 1000 || min(count[api.ErrRule], count[api.ErrState], count[api.ErrNone]) < 100 || ifs < 300 {
		t.Error("too few", count, ifs)
	}
}

// P7.1: matrices with large determinants, and large numbers in the inverse.
func TestSolutionsAreAsNaive(t *testing.T) {
	g := dice(10)
	count := map[api.Errno]int{}
	for range 1500 {
		n := 1 + g.below(8)
		text, closing := "array a[9]; ", ""
		var loops []string
		for i := range n {
			name := string(rune('i' + i))
			loops = append(loops, name)
			text += fmt.Sprint("for ", name, " = ", g.below(3)-1, " .. 1 { ")
			closing += "} "
		}
		p := program(t, text+"s: a[0] = 1; "+closing)
		l := []api.Plan{{Key: "s", Times: g.dense(loops)}}
		if schedule.Check(p, l) != api.OK {
			continue
		}
		x := &naiveScan{p: p, l: l}
		for k := range l[0].Times {
			x.names = append(x.names, fmt.Sprint("t", k))
		}
		want, f := x.scan()
		q, e := emit.Scan(p, l)
		same(t, fmt.Sprint(l), made(q, e), made(want, f))
		count[e]++
	}
	if min(count[api.OK], count[api.ErrState], count[api.ErrArg], count[api.ErrRule]) < 100 {
		t.Error("too few", count)
	}
}

// dense makes as many times as loops: those of a matrix with numbers up to 1,000, with the determinant 1 or -1, or any other one.
func (g *gen) dense(loops []string) []api.Form {
	n := len(loops)
	m := make([][]int, n)
	for i := range m {
		m[i] = make([]int, n)
		m[i][i] = 1
	}
	kind := g.below(4)
	for range (1 + g.below(8)) * n {
		i, j := g.below(n), g.below(n)
		factor := []int{1, -1, 2, -3, 10}[g.below(5)]
		row := slices.Clone(m[i])
		small := i != j
		for k := range n {
			row[k] += factor * m[j][k]
			small = small && row[k] <= 1000 && row[k] >= -1000
		}
		if small {
			m[i] = row
		}
	}
	var l []api.Form
	for i := range m {
		f := api.Form{Const: g.below(3) - 1}
		for j, coef := range m[i] {
			if kind == 0 {
				coef = g.below(2001) - 1000
			}
			if kind == 1 && g.below(2*n) == 0 {
				coef = 0
			}
			if coef != 0 {
				f.Terms = append(f.Terms, api.Term{Name: loops[j], Coef: coef})
			}
		}
		l = append(l, f)
	}
	return l
}
