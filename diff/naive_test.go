package diff_test

import (
	"slices"
	"strconv"
	"testing"

	"warpbeam/api"
	"warpbeam/diff"
	"warpbeam/nest"
	"warpbeam/run"
)

// naiveSimple changes an expression in one place again and again, as long as a rule applies anywhere.
func naiveSimple(x api.Expr) api.Expr {
	for {
		y, changed := naiveStep(x)
		if !changed {
			return x
		}
		x = y
	}
}

// naiveStep applies the first rule that applies at an expression, or else in it.
func naiveStep(x api.Expr) (api.Expr, bool) {
	is := func(at, n int) bool { return x.Args[at].Op == api.OpNumber && x.Args[at].N == n }
	number := func(n int) api.Expr { return api.Expr{Op: api.OpNumber, N: modulo(n)} }
	switch x.Op {
	case api.OpNumber, api.OpRead:
		return x, false
	case api.OpForm:
		return number(x.Form.Const), len(x.Form.Terms) == 0
	}
	a, b := x.Args[0], x.Args[1]
	for _, rule := range []struct {
		applies bool
		result  api.Expr
	}{
		{x.Op == api.OpAdd && a.Op == api.OpNumber && b.Op == api.OpNumber, number(a.N + b.N)},
		{x.Op == api.OpSub && a.Op == api.OpNumber && b.Op == api.OpNumber, number(a.N - b.N)},
		{x.Op == api.OpMul && a.Op == api.OpNumber && b.Op == api.OpNumber, number(a.N * b.N)},
		{x.Op == api.OpAdd && is(1, 0), a},
		{x.Op == api.OpSub && is(1, 0), a},
		{x.Op == api.OpMul && is(1, 1), a},
		{x.Op == api.OpAdd && is(0, 0), b},
		{x.Op == api.OpMul && is(0, 1), b},
		{x.Op == api.OpMul && is(1, 0), number(0)},
		{x.Op == api.OpMul && is(0, 0), number(0)},
	} {
		if rule.applies {
			return rule.result, true
		}
	}
	for i, y := range x.Args {
		if z, changed := naiveStep(y); changed {
			x.Args = slices.Clone(x.Args)
			x.Args[i] = z
			return x, true
		}
	}
	return x, false
}

// naiveDerivative is the derivative of an expression, as long as the rules make it.
func naiveDerivative(x api.Expr) api.Expr {
	of := func(op int, a, b api.Expr) api.Expr { return api.Expr{Op: op, Args: []api.Expr{a, b}} }
	switch x.Op {
	case api.OpNumber, api.OpForm:
		return api.Expr{Op: api.OpNumber}
	case api.OpRead:
		x.Array += "_d"
		return x
	case api.OpMul:
		return of(api.OpAdd, of(api.OpMul, naiveDerivative(x.Args[0]), x.Args[1]), of(api.OpMul, x.Args[0], naiveDerivative(x.Args[1])))
	}
	return of(x.Op, naiveDerivative(x.Args[0]), naiveDerivative(x.Args[1]))
}

// naiveForward makes what Forward should, without its errors.
func naiveForward(p api.Program) api.Program {
	var q api.Program
	for _, a := range p.Arrays {
		b := a
		b.Key += "_d"
		q.Arrays = append(q.Arrays, a, b)
	}
	var steps func(l []api.Step) []api.Step
	steps = func(l []api.Step) []api.Step {
		var out []api.Step
		for _, s := range l {
			if s.Kind == api.StepSet {
				d := s
				d.Name += "_d"
				d.Array += "_d"
				d.Expr = naiveSimple(naiveDerivative(s.Expr))
				out = append(out, d)
			}
			s.Body = steps(s.Body)
			out = append(out, s)
		}
		return out
	}
	q.Steps = steps(p.Steps)
	return q
}

// moment is an instance in the middle of a run.
type moment struct {
	statement api.Step
	point     api.Point
	memory    map[api.Spot]int // as it is before the instance
	program   api.Program
}

// spot is the cell of an array at some indices.
func (m moment) spot(t *testing.T, key string, subs []api.Form) api.Spot {
	t.Helper()
	var index []int
	for _, f := range subs {
		n, e := nest.Value(f, m.point)
		if e != api.OK {
			t.Fatal(e)
		}
		index = append(index, n)
	}
	at := slices.IndexFunc(m.program.Arrays, func(a api.Array) bool { return a.Key == key })
	cell, found, e := nest.Cell(m.program.Arrays[at], index)
	if e != api.OK || !found {
		t.Fatal(key, index, found, e)
	}
	return api.Spot{Array: key, Cell: cell}
}

// value is a value with a derivative. Reads have the derivatives that slope tells of the number of a read and its spot.
func (m moment) value(t *testing.T, x api.Expr, reads *int, slope func(number int, s api.Spot) int) (int, int) {
	t.Helper()
	switch x.Op {
	case api.OpNumber:
		return x.N, 0
	case api.OpForm:
		n, _ := nest.Value(x.Form, m.point)
		return modulo(n), 0
	case api.OpRead:
		s := m.spot(t, x.Array, x.Subs)
		*reads++
		return m.memory[s], slope(*reads-1, s)
	}
	a, da := m.value(t, x.Args[0], reads, slope)
	b, db := m.value(t, x.Args[1], reads, slope)
	switch x.Op {
	case api.OpAdd:
		return modulo(a + b), modulo(da + db)
	case api.OpSub:
		return modulo(a - b), modulo(da - db)
	}
	return modulo(a * b), modulo(da*b + a*db)
}

// spotsOf are the values of grids, cell by cell.
func spotsOf(g []api.Grid) map[api.Spot]int {
	all := map[api.Spot]int{}
	for _, x := range g {
		for cell, n := range x.Values {
			all[api.Spot{Array: x.Key, Cell: cell}] = n
		}
	}
	return all
}

// naiveRun visits all instances of a run, which sets the value that visit returns, and returns the memory at the end.
func naiveRun(t *testing.T, p api.Program, g []api.Grid, visit func(m moment, at api.Spot) int) map[api.Spot]int {
	t.Helper()
	l, e := run.Instances(p)
	if e != api.OK {
		t.Fatal(e)
	}
	m := moment{memory: spotsOf(g), program: p}
	for _, x := range l {
		statement, outer, _ := nest.Statement(p, x.Key)
		m.statement, m.point = statement, nil
		for _, s := range outer {
			if s.Kind == api.StepLoop {
				m.point = append(m.point, api.Slot{Name: s.Name, Value: x.Values[len(m.point)]})
			}
		}
		slices.SortFunc(m.point, func(a, b api.Slot) int { return compare(a.Name, b.Name) })
		at := m.spot(t, statement.Array, statement.Subs)
		m.memory[at] = visit(m, at)
	}
	return m.memory
}

func compare(a, b string) int {
	switch {
	case a < b:
		return -1
	case a > b:
		return 1
	}
	return 0
}

// gridsOf are the grids of all arrays of a program with some values.
func gridsOf(p api.Program, spots map[api.Spot]int) []api.Grid {
	return forAll(p, func(key string, cell int) int { return spots[api.Spot{Array: key, Cell: cell}] })
}

// naiveDual runs a program with dual numbers, instance by instance.
func naiveDual(t *testing.T, p api.Program, g, d []api.Grid) ([]api.Grid, []api.Grid) {
	t.Helper()
	slopes := spotsOf(d)
	end := naiveRun(t, p, g, func(m moment, at api.Spot) int {
		n := 0
		value, slope := m.value(t, m.statement.Expr, &n, func(_ int, s api.Spot) int { return slopes[s] })
		slopes[at] = slope
		return value
	})
	return gridsOf(p, end), gridsOf(p, slopes)
}

// naiveGradient plays a run backwards: for each read of an instance by itself it computes the expression again.
func naiveGradient(t *testing.T, p api.Program, g, out []api.Grid) []api.Grid {
	t.Helper()
	type entry struct {
		spot api.Spot
		rate int
	}
	type instance struct {
		sets  api.Spot
		reads []entry
	}
	var played []instance
	naiveRun(t, p, g, func(m moment, at api.Spot) int {
		x := instance{sets: at}
		many := 0
		value, _ := m.value(t, m.statement.Expr, &many, func(_ int, s api.Spot) int {
			x.reads = append(x.reads, entry{spot: s})
			return 0
		})
		for i := range x.reads {
			n := 0
			_, x.reads[i].rate = m.value(t, m.statement.Expr, &n, func(number int, _ api.Spot) int {
				if number == i {
					return 1
				}
				return 0
			})
		}
		played = append(played, x)
		return value
	})
	numbers := spotsOf(out)
	for _, x := range slices.Backward(played) {
		n := numbers[x.sets]
		numbers[x.sets] = 0
		for _, r := range x.reads {
			numbers[r.spot] = modulo(numbers[r.spot] + n*r.rate)
		}
	}
	return gridsOf(p, numbers)
}

// naiveJacobian has a column for each direction.
func naiveJacobian(t *testing.T, p api.Program, g []api.Grid, from, to string) [][]int {
	t.Helper()
	zero := unit(p, "", 0)
	m := make([][]int, len(valuesOf(zero, to)))
	for k := range valuesOf(zero, from) {
		_, d := naiveDual(t, p, g, unit(p, from, k))
		for i, n := range valuesOf(d, to) {
			m[i] = append(m[i], n)
		}
	}
	return m
}

// node is an expression within another one, with what stands on the way to it: for each operator its Op, and the other Arg.
type node struct {
	expr   api.Expr
	ops    []int
	second []bool // whether the way leads to the second Arg
	others []api.Expr
}

// nodesOf are all expressions within one, from left to right.
func nodesOf(n node) []node {
	l := []node{n}
	for i, y := range n.expr.Args {
		l = append(l, nodesOf(node{
			expr:   y,
			ops:    append(slices.Clone(n.ops), n.expr.Op),
			second: append(slices.Clone(n.second), i == 1),
			others: append(slices.Clone(n.others), n.expr.Args[1-i]),
		})...)
	}
	return l
}

// naiveReads are the reads within an expression.
func naiveReads(x api.Expr) []node {
	return slices.DeleteFunc(nodesOf(node{expr: x}), func(n node) bool { return n.expr.Op != api.OpRead })
}

// naiveLinear asks each number, form and product of an expression.
func naiveLinear(x api.Expr) bool {
	for _, n := range nodesOf(node{expr: naiveSimple(x)}) {
		switch n.expr.Op {
		case api.OpMul:
			if len(naiveReads(n.expr.Args[0])) > 0 && len(naiveReads(n.expr.Args[1])) > 0 {
				return false
			}
		case api.OpNumber, api.OpForm:
			scaled := n.expr.Op == api.OpNumber && n.expr.N == 0
			for i, op := range n.ops {
				if op == api.OpMul && len(naiveReads(n.others[i])) > 0 {
					scaled = true
				}
			}
			if !scaled {
				return false
			}
		}
	}
	return true
}

// naiveTransposed makes what Transposed should for a linear program, without its errors: variables are replaced loop by loop.
func naiveTransposed(t *testing.T, p api.Program) api.Program {
	t.Helper()
	q := api.Program{Arrays: append(slices.Clone(p.Arrays), api.Array{Key: "t_b", Sizes: []int{1}})}
	q.Steps = naiveBack(t, p.Steps)
	return q
}

func naiveBack(t *testing.T, l []api.Step) []api.Step {
	t.Helper()
	var out []api.Step
	for i := len(l) - 1; i >= 0; i-- {
		s := l[i]
		s.Body = naiveBack(t, s.Body)
		switch s.Kind {
		case api.StepLoop:
			s.Low, s.High = negated(s.High), negated(s.Low)
			by := func(f api.Form) api.Form {
				g, e := nest.Put(f, s.Name, api.Form{Terms: []api.Term{{Name: s.Name, Coef: -1}}})
				if e != api.OK {
					t.Fatal(e)
				}
				return g
			}
			s.Body = replaced(s.Body, by)
			out = append(out, s)
		case api.StepIf:
			out = append(out, s)
		case api.StepSet:
			out = append(out, naiveShares(s)...)
		}
	}
	return out
}

// negated are bounds, negated.
func negated(l []api.Bound) []api.Bound {
	var out []api.Bound
	for _, b := range l {
		f, _ := nest.Sum(b.Form, -1, api.Form{}, 1)
		out = append(out, api.Bound{Form: f, Div: b.Div})
	}
	return out
}

// replaced is steps in which all forms are changed.
func replaced(l []api.Step, by func(api.Form) api.Form) []api.Step {
	forms := func(l []api.Form) []api.Form {
		l = slices.Clone(l)
		for i := range l {
			l[i] = by(l[i])
		}
		return l
	}
	bounds := func(l []api.Bound) []api.Bound {
		l = slices.Clone(l)
		for i := range l {
			l[i].Form = by(l[i].Form)
		}
		return l
	}
	var inExpr func(x api.Expr) api.Expr
	inExpr = func(x api.Expr) api.Expr {
		x.Form, x.Subs, x.Args = by(x.Form), forms(x.Subs), slices.Clone(x.Args)
		for i := range x.Args {
			x.Args[i] = inExpr(x.Args[i])
		}
		return x
	}
	var out []api.Step
	for _, s := range l {
		s.Low, s.High, s.Conds, s.Subs = bounds(s.Low), bounds(s.High), forms(s.Conds), forms(s.Subs)
		s.Expr, s.Body = inExpr(s.Expr), replaced(s.Body, by)
		out = append(out, s)
	}
	return out
}

// naiveShares are the statements that a statement becomes, with its variables as they were.
func naiveShares(s api.Step) []api.Step {
	number := func(n int) api.Expr { return api.Expr{Op: api.OpNumber, N: n} }
	of := func(op int, a, b api.Expr) api.Expr { return api.Expr{Op: op, Args: []api.Expr{a, b}} }
	held := api.Expr{Op: api.OpRead, Array: "t_b", Subs: []api.Form{{}}}
	cell := api.Expr{Op: api.OpRead, Array: s.Array, Subs: s.Subs}
	out := []api.Step{
		{Kind: api.StepSet, Name: s.Name + "_t", Array: held.Array, Subs: held.Subs, Expr: cell},
		{Kind: api.StepSet, Name: s.Name + "_z", Array: s.Array, Subs: s.Subs, Expr: number(0)},
	}
	for i, n := range naiveReads(naiveSimple(s.Expr)) {
		var factors []api.Expr
		minus := 0
		for k, op := range n.ops {
			if op == api.OpMul {
				factors = append(factors, n.others[k])
			}
			if op == api.OpSub && n.second[k] {
				minus++
			}
		}
		factor := number(1)
		for k, f := range factors {
			if k == 0 {
				factor = f
			} else {
				factor = of(api.OpMul, factor, f)
			}
		}
		if minus%2 == 1 {
			factor = of(api.OpSub, number(0), factor)
		}
		out = append(out, api.Step{
			Kind: api.StepSet, Name: s.Name + "_" + strconv.Itoa(i), Array: n.expr.Array, Subs: n.expr.Subs,
			Expr: naiveSimple(of(api.OpAdd, n.expr, of(api.OpMul, factor, held))),
		})
	}
	return out
}

// isLinear is what Linear returns, which has to have no error.
func isLinear(t *testing.T, p api.Program) bool {
	t.Helper()
	is, e := diff.Linear(p)
	if e != api.OK {
		t.Fatal(textOf(p), e)
	}
	return is
}

// naiveLinearAll reports whether all expressions are linear.
func naiveLinearAll(t *testing.T, p api.Program) bool {
	t.Helper()
	names, _ := nest.Statements(p)
	return !slices.ContainsFunc(names, func(name string) bool {
		s, _, _ := nest.Statement(p, name)
		return !naiveLinear(s.Expr)
	})
}
