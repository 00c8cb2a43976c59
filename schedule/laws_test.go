package schedule_test

import (
	"fmt"
	"slices"
	"testing"

	"warpbeam/api"
	"warpbeam/nest"
	"warpbeam/run"
	"warpbeam/schedule"
)

// naive says what schedules do just as the chapter says it, pair by pair.
type naive struct {
	program   api.Program
	text      string
	instances []api.Instance
	reads     []map[api.Spot]bool
	sets      []api.Spot
	spots     []api.Spot // all cells, by arrays in their order
	names     []string   // of the statements
	loops     map[string][]string
}

func naiveOf(p api.Program) (*naive, api.Errno) {
	n := &naive{program: p, loops: map[string][]string{}}
	n.text, _ = nest.Text(p)
	n.names, _ = nest.Statements(p)
	for _, s := range n.names {
		_, around, _ := nest.Statement(p, s)
		for _, x := range around {
			if x.Kind == api.StepLoop {
				n.loops[s] = append(n.loops[s], x.Name)
			}
		}
	}
	for _, a := range p.Arrays {
		many, _ := nest.Cells(api.Program{Arrays: []api.Array{a}})
		for cell := range many {
			n.spots = append(n.spots, api.Spot{Array: a.Key, Cell: cell})
		}
	}
	accesses, e := run.Accesses(p)
	n.instances, _ = run.Instances(p)
	for range n.instances {
		n.reads = append(n.reads, map[api.Spot]bool{})
		n.sets = append(n.sets, api.Spot{})
	}
	for _, a := range accesses {
		if a.Sets {
			n.sets[a.Instance] = api.Spot{Array: a.Array, Cell: a.Cell}
		} else {
			n.reads[a.Instance][api.Spot{Array: a.Array, Cell: a.Cell}] = true
		}
	}
	return n, e
}

// by reports whether two instances depend on each other by a cell.
func (n *naive) by(i, k int, s api.Spot) bool {
	first, second := n.sets[i] == s, n.sets[k] == s
	return first && second || first && n.reads[k][s] || n.reads[i][s] && second
}

func (n *naive) depend(i, k int) bool {
	return slices.ContainsFunc(n.spots, func(s api.Spot) bool { return n.by(i, k, s) })
}

func (n *naive) time(l []api.Plan, i int) []int {
	x := n.instances[i]
	var values []int
	for _, f := range l[slices.Index(n.names, x.Key)].Times {
		v := f.Const
		for _, t := range f.Terms {
			v += t.Coef * x.Values[slices.Index(n.loops[x.Key], t.Name)]
		}
		values = append(values, v)
	}
	return values
}

func (n *naive) times(l []api.Plan) [][]int {
	var out [][]int
	for i := range n.instances {
		out = append(out, n.time(l, i))
	}
	return out
}

func (n *naive) legal(l []api.Plan) (api.Turned, bool) {
	times := n.times(l)
	for to := range n.instances {
		for from := range to {
			for _, s := range n.spots {
				if n.by(from, to, s) && slices.Compare(times[from], times[to]) >= 0 {
					return api.Turned{From: n.instances[from], To: n.instances[to], Array: s.Array, Cell: s.Cell}, false
				}
			}
		}
	}
	return api.Turned{}, true
}

// order is the numbers of the instances by their times.
func (n *naive) order(times [][]int) []int {
	var l []int
	for i := range times {
		l = append(l, i)
	}
	slices.SortStableFunc(l, func(a, b int) int { return slices.Compare(times[a], times[b]) })
	return l
}

func (n *naive) done(order []int) []api.Instance {
	var l []api.Instance
	for _, i := range order {
		l = append(l, n.instances[i])
	}
	return l
}

func (n *naive) parallel(l []api.Plan) []bool {
	times := n.times(l)
	var out []bool
	for at := range l[0].Times {
		is := true
		for to := range n.instances {
			for from := range to {
				if n.depend(from, to) && slices.Equal(times[from][:at], times[to][:at]) && times[from][at] != times[to][at] {
					is = false
				}
			}
		}
		out = append(out, is)
	}
	return out
}

func (n *naive) latency(l []api.Plan) (int, int) {
	count := map[string]int{}
	most := 0
	for _, x := range n.times(l) {
		count[fmt.Sprint(x)]++
		most = max(most, count[fmt.Sprint(x)])
	}
	return len(count), most
}

func (n *naive) earliest() ([]int, int) {
	var l []int
	many := 0
	for to := range n.instances {
		l = append(l, 0)
		for from := range to {
			if n.depend(from, to) {
				l[to] = max(l[to], l[from]+1)
			}
		}
		many = max(many, l[to]+1)
	}
	return l, many
}

// eachProgram calls test with many programs that can be run.
func eachProgram(t *testing.T, seed uint64, most int, test func(g *gen, n *naive)) {
	t.Helper()
	g := dice(seed)
	many := 0
	for range 500 {
		n, e := naiveOf(g.program(t))
		if e != api.OK || len(n.instances) == 0 || len(n.instances) > most {
			continue
		}
		many++
		test(g, n)
	}
	if many < 100 {
		t.Errorf("just %d programs", many)
	}
}

// randomForm makes a form of some variables.
func (g *gen) randomForm(loops []string) api.Form {
	l := slices.Clone(loops)
	slices.Sort(l)
	f := api.Form{Const: g.below(5) - 2}
	for _, name := range l {
		if c := g.below(6) - 2; c != 0 {
			f.Terms = append(f.Terms, api.Term{Name: name, Coef: c})
		}
	}
	return f
}

// schedule makes one: any, or one that is not far from that of the program.
func (g *gen) schedule(n *naive) []api.Plan {
	l, e := schedule.Original(n.program)
	many := 1 + g.below(3)
	if e != api.OK || g.below(3) == 0 {
		l = nil
		for _, s := range n.names {
			x := api.Plan{Key: s}
			for range many {
				x.Times = append(x.Times, g.randomForm(n.loops[s]))
			}
			l = append(l, x)
		}
		return l
	}
	for range g.below(3) {
		a, b, sign := g.below(len(l[0].Times)), g.below(len(l[0].Times)), 1-2*g.below(2)
		for _, x := range l {
			sum, e := nest.Sum(x.Times[a], 1, x.Times[b], sign)
			if e == api.OK {
				x.Times[a] = sum
			}
		}
	}
	return l
}

// The functions of schedules are as the chapter says it.
func TestSchedulesAreAsNaive(t *testing.T) {
	count := map[string]int{}
	eachProgram(t, 1, 40, func(g *gen, n *naive) {
		for range 3 {
			l := g.schedule(n)
			what := n.text + written(l)
			same(t, what, schedule.Check(n.program, l), api.OK)
			x, is, e := schedule.Legal(n.program, l)
			y, want := n.legal(l)
			same(t, what, []any{turned(x), is, e}, []any{turned(y), want, api.OK})
			times := n.times(l)
			order, e := schedule.Order(n.program, l)
			same(t, what, []any{done(order), e}, []any{done(n.done(n.order(times))), api.OK})
			parallel, e := schedule.Parallel(n.program, l)
			same(t, what, []any{parallel, e}, []any{n.parallel(l), api.OK})
			many, most, e := schedule.Latency(n.program, l)
			a, b := n.latency(l)
			same(t, what, []any{many, most, e}, []any{a, b, api.OK})
			for i, x := range n.instances {
				v, e := schedule.Time(n.program, l, x)
				same(t, what, []any{v, e}, []any{times[i], api.OK})
			}
			count[fmt.Sprint("legal ", is)]++
			for _, x := range parallel {
				count[fmt.Sprint("parallel ", x)]++
			}
		}
	})
	for _, s := range []string{"legal true", "legal false", "parallel true", "parallel false"} {
		if count[s] < 100 {
			t.Error("too few", s, count)
		}
	}
}

func TestEarliestIsAsNaive(t *testing.T) {
	eachProgram(t, 2, 60, func(g *gen, n *naive) {
		l, many, e := schedule.Earliest(n.program)
		a, b := n.earliest()
		same(t, n.text, []any{l, many, e}, []any{a, b, api.OK})
	})
}

// The original schedule is legal, and orders the instances as the program does.
func TestOriginalIsTheProgram(t *testing.T) {
	eachProgram(t, 3, 60, func(g *gen, n *naive) {
		l, e := schedule.Original(n.program)
		same(t, n.text, []any{e, schedule.Check(n.program, l)}, []any{api.OK, api.OK})
		x, is, e := schedule.Legal(n.program, l)
		same(t, n.text, []any{turned(x), is, e}, []any{turned(api.Turned{}), true, api.OK})
		order, e := schedule.Order(n.program, l)
		same(t, n.text, []any{done(order), e}, []any{done(n.instances), api.OK})
		times := n.times(l)
		for i := range times[1:] {
			if slices.Compare(times[i], times[i+1]) >= 0 {
				t.Error(n.text, times[i], times[i+1])
			}
		}
	})
}

// Legal schedules end with the same grids, also if what is parallel is turned round; none has less latency than Earliest tells.
func TestLegalSchedulesEndTheSame(t *testing.T) {
	legal, turns := 0, 0
	eachProgram(t, 4, 60, func(g *gen, n *naive) {
		in := g.grids(n.program)
		want, _ := run.Run(n.program, in)
		_, least, _ := schedule.Earliest(n.program)
		for range 6 {
			l := g.schedule(n)
			what := n.text + written(l)
			if _, is, _ := schedule.Legal(n.program, l); !is {
				continue
			}
			legal++
			out, _ := run.InOrder(n.program, in, n.order(n.times(l)))
			same(t, what, out, want)
			many, _, _ := schedule.Latency(n.program, l)
			if many < least {
				t.Errorf("%s: %d times, but a chain of %d", what, many, least)
			}
			parallel, _ := schedule.Parallel(n.program, l)
			for at, is := range parallel {
				if !is {
					continue
				}
				turns++
				for _, x := range l {
					x.Times[at], _ = nest.Sum(x.Times[at], -1, api.Form{}, 0)
				}
				_, is, _ := schedule.Legal(n.program, l)
				same(t, what, is, true)
			}
			out, _ = run.InOrder(n.program, in, n.order(n.times(l)))
			same(t, what, out, want)
		}
	})
	if legal < 100 || turns < 100 {
		t.Error("too few schedules", legal, turns)
	}
}

// all visits all lists of so many numbers from 0 to most, in order.
func all(many, most int, visit func(l []int)) {
	l := make([]int, many)
	for {
		visit(l)
		at := many - 1
		for at >= 0 && l[at] == most {
			l[at] = 0
			at--
		}
		if at < 0 {
			return
		}
		l[at]++
	}
}

// search is Search, schedule by schedule.
func (n *naive) search(most int) (string, int, bool) {
	many := 0
	for _, s := range n.names {
		many += len(n.loops[s]) + 1
	}
	best, least, found := "", 0, false
	all(many, most, func(numbers []int) {
		var l []api.Plan
		for _, s := range n.names {
			loops := n.loops[s]
			f := api.Form{Const: numbers[len(loops)]}
			for i, name := range loops {
				f, _ = nest.Sum(f, 1, api.Form{Terms: []api.Term{{Name: name, Coef: 1}}}, numbers[i])
			}
			numbers = numbers[len(loops)+1:]
			l = append(l, api.Plan{Key: s, Times: []api.Form{f}})
		}
		latency, _ := n.latency(l)
		if found && latency >= least {
			return
		}
		if _, is := n.legal(l); is {
			best, least, found = written(l), latency, true
		}
	})
	return best, least, found
}

func TestSearchIsAsNaive(t *testing.T) {
	count := map[bool]int{}
	eachProgram(t, 5, 20, func(g *gen, n *naive) {
		numbers := 0
		for _, s := range n.names {
			numbers += len(n.loops[s]) + 1
		}
		for most, limit := range []int{0, 8, 5, 4} {
			if most == 0 || numbers > limit {
				continue
			}
			l, latency, is, e := schedule.Search(n.program, most)
			best, least, found := n.search(most)
			same(t, fmt.Sprint(most, n.text), []any{written(l), latency, is, e}, []any{best, least, found, api.OK})
			count[is]++
			if !is {
				continue
			}
			_, legal, _ := schedule.Legal(n.program, l)
			many, _, _ := schedule.Latency(n.program, l)
			same(t, fmt.Sprint(most, n.text), []any{legal, many}, []any{true, latency})
		}
	})
	if min(count[false], count[true]) < 10 {
		t.Error("too few", count)
	}
}

// matrix makes one with numbers from -most to most.
func (g *gen) matrix(n, most int) [][]int {
	m := make([][]int, n)
	for i := range m {
		for range n {
			m[i] = append(m[i], g.below(2*most+1)-most)
		}
	}
	return m
}

func product(a, b [][]int) [][]int {
	m := make([][]int, len(a))
	for i := range a {
		for j := range a {
			sum := 0
			for k := range a {
				sum += a[i][k] * b[k][j]
			}
			m[i] = append(m[i], sum)
		}
	}
	return m
}

// leibniz is a determinant: the sum over all ways to take one number of each row and each column.
func leibniz(m [][]int) int {
	sum := 0
	var from func(row, product, sign int, taken []int)
	from = func(row, product, sign int, taken []int) {
		if row == len(m) {
			sum += sign * product
			return
		}
		for column := range m {
			if slices.Contains(taken, column) {
				continue
			}
			s := sign
			for _, c := range taken {
				if c > column {
					s = -s
				}
			}
			from(row+1, product*m[row][column], s, append(slices.Clone(taken), column))
		}
	}
	from(0, 1, 1, nil)
	return sum
}

// The determinant of a product is the product of the determinants.
func TestDeterminantsOfProducts(t *testing.T) {
	g := dice(6)
	for range 500 {
		n := 1 + g.below(5)
		a, b, c := g.matrix(n, 9), g.matrix(n, 9), g.matrix(n, 1000)
		x, _ := schedule.Determinant(a)
		y, _ := schedule.Determinant(b)
		z, e := schedule.Determinant(product(a, b))
		same(t, fmt.Sprint(a, b), []any{z, e}, []any{x * y, api.OK})
		z, e = schedule.Determinant(c)
		same(t, fmt.Sprint(c), []any{z, e}, []any{leibniz(c), api.OK})
	}
}

// unit makes a matrix whose determinant is 1 or -1.
func (g *gen) unit(n int) [][]int {
	m, _ := schedule.Skew(n, 0, n-1, 0)
	if n == 1 {
		m = [][]int{{1 - 2*g.below(2)}}
	}
	for range 2 * n {
		i, j := g.below(n), g.below(n)
		x, e := schedule.Skew(n, i, j, g.below(5)-2)
		switch {
		case e == api.OK:
			m = product(m, x)
		case g.below(2) == 0:
			m[0], m[i] = m[i], m[0]
		}
	}
	return m
}

// A matrix times its inverse leaves all as it is.
func TestInverses(t *testing.T) {
	g := dice(7)
	count := map[api.Errno]int{}
	for range 1000 {
		n := 1 + g.below(5)
		m := g.unit(n)
		x, e := schedule.Inverse(m)
		count[e]++
		if e != api.OK {
			continue
		}
		one := make([][]int, n)
		for i := range one {
			one[i] = make([]int, n)
			one[i][i] = 1
		}
		same(t, fmt.Sprint(m), []any{product(m, x), product(x, m)}, []any{one, one})
		y, e := schedule.Inverse(x)
		same(t, fmt.Sprint(m), []any{y, e}, []any{m, api.OK})
	}
	if count[api.OK] < 500 || count[api.ErrState] > 0 {
		t.Error("errors", count)
	}
}

// The times of a plan by a matrix are the matrix times the values of the loops.
func TestTimesOfMapped(t *testing.T) {
	many := 0
	eachProgram(t, 8, 60, func(g *gen, n *naive) {
		if len(n.names) != 1 || len(n.loops[n.names[0]]) == 0 {
			return
		}
		many++
		key := n.names[0]
		m := g.matrix(len(n.loops[key]), 3)
		x, e := schedule.Mapped(n.program, key, m)
		same(t, n.text, []any{e, schedule.Check(n.program, []api.Plan{x})}, []any{api.OK, api.OK})
		for _, i := range n.instances {
			var want []int
			for _, coefs := range m {
				sum := 0
				for at, v := range i.Values {
					sum += coefs[at] * v
				}
				want = append(want, sum)
			}
			v, e := schedule.Time(n.program, []api.Plan{x}, i)
			same(t, fmt.Sprint(n.text, m, i), []any{v, e}, []any{want, api.OK})
		}
	})
	if many < 20 {
		t.Error("too few programs", many)
	}
}
