package depend_test

import (
	"fmt"
	"slices"
	"strings"
	"testing"

	"warpbeam/api"
	"warpbeam/depend"
	"warpbeam/nest"
	"warpbeam/run"
)

// stair is a step on the way to a statement: its place among those next to it, and its number if it is a loop, otherwise -1.
type stair struct{ place, loop int }

// naive finds dependences just as the chapter says it, instance by instance.
type naive struct {
	program   api.Program
	text      string
	instances []api.Instance
	reads     []map[api.Spot]bool
	sets      []api.Spot
	loops     int
	names     []string // of the statements
	ways      map[string][]stair
}

func naiveOf(p api.Program) (*naive, api.Errno) {
	n := &naive{program: p, ways: map[string][]stair{}}
	n.text, _ = nest.Text(p)
	n.walk(p.Steps, nil)
	accesses, e := run.Accesses(p)
	n.instances, _ = run.Instances(p)
	for range n.instances {
		n.reads = append(n.reads, map[api.Spot]bool{})
		n.sets = append(n.sets, api.Spot{})
	}
	for _, a := range accesses {
		if a.Sets {
			n.sets[a.Instance] = api.Spot{Array: a.Array, Cell: a.Cell}
		} else {
			n.reads[a.Instance][api.Spot{Array: a.Array, Cell: a.Cell}] = true
		}
	}
	return n, e
}

func (n *naive) walk(l []api.Step, way []stair) {
	for i, s := range l {
		x := stair{i, -1}
		if s.Kind == api.StepLoop {
			x.loop = n.loops
			n.loops++
		}
		if s.Kind == api.StepSet {
			n.names = append(n.names, s.Name)
			n.ways[s.Name] = append(slices.Clone(way), x)
		}
		n.walk(s.Body, append(slices.Clone(way), x))
	}
}

// between reports whether an instance between two others sets a spot.
func (n *naive) between(i, k int, s api.Spot) bool { return slices.Contains(n.sets[i+1:k], s) }

func (n *naive) direct() []api.Dependence {
	var l []api.Dependence
	for k := range n.instances {
		for i := range k {
			a, b := n.sets[i], n.sets[k]
			if n.reads[k][a] && !n.between(i, k, a) {
				l = append(l, api.Dependence{Kind: api.DepFlow, From: i, To: k, Array: a.Array, Cell: a.Cell})
			}
			if n.reads[i][b] && !n.between(i, k, b) {
				l = append(l, api.Dependence{Kind: api.DepAnti, From: i, To: k, Array: b.Array, Cell: b.Cell})
			}
			if a == b && !n.between(i, k, b) {
				l = append(l, api.Dependence{Kind: api.DepOutput, From: i, To: k, Array: b.Array, Cell: b.Cell})
			}
		}
	}
	return l
}

// common are the numbers of the loops around two statements.
func (n *naive) common(a, b string) []int {
	var l []int
	x, y := n.ways[a], n.ways[b]
	for i := 0; i < min(len(x), len(y)) && x[i] == y[i]; i++ {
		if x[i].loop >= 0 {
			l = append(l, x[i].loop)
		}
	}
	return l
}

// levelOf is the level of a dependence, and the loop that carries it, or -1.
func (n *naive) levelOf(d api.Dependence) (int, int) {
	a, b := n.instances[d.From], n.instances[d.To]
	for i, loop := range n.common(a.Key, b.Key) {
		if a.Values[i] != b.Values[i] {
			return i + 1, loop
		}
	}
	return 0, -1
}

// relations are those that a loop carries, or all for -2.
func (n *naive) relations(carrier int) []api.Relation {
	var l []api.Relation
	direct := n.direct()
	for _, from := range n.names {
		for _, to := range n.names {
			for kind := api.DepFlow; kind <= api.DepOutput; kind++ {
				for _, array := range []string{"a", "b", "c"} {
					for level := range 9 {
						r := n.relation(direct, api.Relation{Kind: kind, Level: level, From: from, To: to, Array: array}, carrier)
						if r.Many > 0 {
							l = append(l, r)
						}
					}
				}
			}
		}
	}
	return l
}

func (n *naive) relation(l []api.Dependence, r api.Relation, carrier int) api.Relation {
	common := len(n.common(r.From, r.To))
	r.Least, r.Most = slices.Repeat([]int{1 << 30}, common), slices.Repeat([]int{-1 << 30}, common)
	for _, d := range l {
		level, loop := n.levelOf(d)
		a, b := n.instances[d.From], n.instances[d.To]
		if a.Key != r.From || b.Key != r.To || d.Kind != r.Kind || d.Array != r.Array || level != r.Level || carrier != -2 && loop != carrier {
			continue
		}
		r.Many++
		for i := range common {
			r.Least[i], r.Most[i] = min(r.Least[i], b.Values[i]-a.Values[i]), max(r.Most[i], b.Values[i]-a.Values[i])
		}
	}
	return r
}

func (n *naive) graph() []api.Arrow {
	has := map[api.Arrow]bool{}
	for _, d := range n.direct() {
		has[api.Arrow{From: n.instances[d.From].Key, To: n.instances[d.To].Key}] = true
	}
	var l []api.Arrow
	for _, from := range n.names {
		for _, to := range n.names {
			if has[api.Arrow{From: from, To: to}] {
				l = append(l, api.Arrow{From: from, To: to})
			}
		}
	}
	return l
}

// closed is all pairs of statements with a way of arrows from one to the other one.
func (n *naive) closed() map[api.Arrow]bool {
	is := map[api.Arrow]bool{}
	for _, a := range n.graph() {
		is[a] = true
	}
	for _, by := range n.names {
		for _, a := range n.names {
			for _, b := range n.names {
				if is[api.Arrow{From: a, To: by}] && is[api.Arrow{From: by, To: b}] {
					is[api.Arrow{From: a, To: b}] = true
				}
			}
		}
	}
	return is
}

func (n *naive) groups() [][]string {
	ways := n.closed()
	var all, out [][]string
	for _, s := range n.names {
		at := slices.IndexFunc(all, func(g []string) bool {
			return ways[api.Arrow{From: s, To: g[0]}] && ways[api.Arrow{From: g[0], To: s}]
		})
		if at < 0 {
			all = append(all, []string{s})
		} else {
			all[at] = append(all[at], s)
		}
	}
	for len(all) > 0 {
		at := slices.IndexFunc(all, func(g []string) bool {
			return !slices.ContainsFunc(all, func(h []string) bool { return h[0] != g[0] && ways[api.Arrow{From: h[0], To: g[0]}] })
		})
		out = append(out, all[at])
		all = slices.Delete(all, at, at+1)
	}
	return out
}

// keeps reports whether each instance stands behind all on which it depends.
func (n *naive) keeps(order []int) bool {
	return !slices.ContainsFunc(n.direct(), func(d api.Dependence) bool {
		return slices.Index(order, d.From) > slices.Index(order, d.To)
	})
}

// timeOf is when an instance is done: the places of the steps around it, and the values of the loops. One loop can be turned.
func (n *naive) timeOf(i, turned int) []int {
	var l []int
	values := n.instances[i].Values
	for _, x := range n.ways[n.instances[i].Key] {
		l = append(l, x.place)
		if x.loop < 0 {
			continue
		}
		v := values[0]
		values = values[1:]
		if x.loop == turned {
			v = -v
		}
		l = append(l, v)
	}
	return l
}

// natural is the instances in their order.
func (n *naive) natural() []int {
	var l []int
	for i := range n.instances {
		l = append(l, i)
	}
	return l
}

// turned is the instances in the order in which the rounds of a loop fall.
func (n *naive) turned(loop int) []int {
	l := n.natural()
	slices.SortStableFunc(l, func(a, b int) int { return slices.Compare(n.timeOf(a, loop), n.timeOf(b, loop)) })
	return l
}

// shuffled is the instances in any order.
func (g *gen) shuffled(l []int) []int {
	for i := range l {
		j := g.below(i + 1)
		l[i], l[j] = l[j], l[i]
	}
	return l
}

// eachProgram calls test with many programs that can be run.
func eachProgram(t *testing.T, seed uint64, test func(g *gen, n *naive)) {
	t.Helper()
	g := dice(seed)
	many := 0
	for range 600 {
		n, e := naiveOf(g.program(t))
		if e != api.OK || len(n.instances) == 0 || len(n.instances) > 60 {
			continue
		}
		many++
		test(g, n)
	}
	if many < 100 {
		t.Errorf("just %d programs", many)
	}
}

func TestDependencesAreAsNaive(t *testing.T) {
	kinds, levels, groups := [4]int{}, [5]int{}, 0
	eachProgram(t, 1, func(g *gen, n *naive) {
		l, e := depend.Direct(n.program)
		same(t, n.text, []any{leads(l), e}, []any{leads(n.direct()), api.OK})
		r, e := depend.Relations(n.program)
		same(t, n.text, []any{summed(r), e}, []any{summed(n.relations(-2)), api.OK})
		for _, x := range r {
			kinds[x.Kind]++
			levels[x.Level]++
		}
		arrowsOf, e := depend.Graph(n.program)
		same(t, n.text, []any{arrows(arrowsOf), e}, []any{arrows(n.graph()), api.OK})
		all, e := depend.Groups(n.program)
		same(t, n.text, []any{grouped(all), e}, []any{grouped(n.groups()), api.OK})
		if len(all) < len(n.names) {
			groups++
		}
	})
	if slices.Min(kinds[1:]) < 50 || slices.Min(levels[:4]) < 20 || groups < 20 {
		t.Error("too few kinds, levels or groups", kinds, levels, groups)
	}
}

func TestLoopsAreAsNaive(t *testing.T) {
	free, busy := 0, 0
	eachProgram(t, 2, func(g *gen, n *naive) {
		var want []int
		for loop := range n.loops {
			r, e := depend.Carried(n.program, loop)
			same(t, n.text, []any{summed(r), e}, []any{summed(n.relations(loop)), api.OK})
			if len(r) == 0 {
				want = append(want, loop)
			}
		}
		_, e := depend.Carried(n.program, n.loops)
		same(t, n.text, e, api.ErrNone)
		l, e := depend.Free(n.program)
		same(t, n.text, []any{l, e}, []any{want, api.OK})
		free += len(l)
		busy += n.loops - len(l)
	})
	if free < 20 || busy < 20 {
		t.Error("too few loops", free, busy)
	}
}

func TestWavesAreAsNaive(t *testing.T) {
	eachProgram(t, 3, func(g *gen, n *naive) {
		l := n.direct()
		var want []int
		for i := range n.instances {
			want = append(want, 0)
			for _, d := range l {
				if d.To == i {
					want[i] = max(want[i], want[d.From]+1)
				}
			}
		}
		w, many, e := depend.Waves(n.program)
		same(t, n.text, []any{w, many, e}, []any{want, slices.Max(want) + 1, api.OK})
	})
}

// A loop that carries nothing can do its rounds the other way round; with one that carries something a dependence turns.
func TestFreeLoopsCanBeTurned(t *testing.T) {
	free, busy := 0, 0
	eachProgram(t, 4, func(g *gen, n *naive) {
		same(t, n.text, n.turned(-1), n.natural())
		l, _ := depend.Free(n.program)
		for loop := range n.loops {
			is, e := depend.Keeps(n.program, n.turned(loop))
			same(t, fmt.Sprint(n.text, loop), []any{is, e}, []any{slices.Contains(l, loop), api.OK})
			if is {
				free++
			} else {
				busy++
			}
		}
	})
	if free < 20 || busy < 20 {
		t.Error("too few loops", free, busy)
	}
}

// Orders that keep dependences end with the same grids.
func TestOrdersThatKeepEndTheSame(t *testing.T) {
	kept, broken := 0, 0
	eachProgram(t, 5, func(g *gen, n *naive) {
		in := g.grids(n.program)
		want, _ := run.Run(n.program, in)
		order := n.natural()
		for range 20 {
			next := slices.Clone(order)
			i, j := g.below(len(order)), g.below(len(order))
			next[i], next[j] = next[j], next[i]
			is, e := depend.Keeps(n.program, next)
			same(t, fmt.Sprint(n.text, next), []any{is, e}, []any{n.keeps(next), api.OK})
			if is {
				order = next
				kept++
			} else {
				broken++
			}
		}
		out, _ := run.InOrder(n.program, in, order)
		same(t, fmt.Sprint(n.text, order), out, want)
	})
	if kept < 200 || broken < 200 {
		t.Error("too few orders", kept, broken)
	}
}

// So do orders by waves, whatever the order within a wave.
func TestWavesEndTheSame(t *testing.T) {
	eachProgram(t, 6, func(g *gen, n *naive) {
		in := g.grids(n.program)
		want, _ := run.Run(n.program, in)
		w, _, _ := depend.Waves(n.program)
		order := g.shuffled(n.natural())
		slices.SortStableFunc(order, func(a, b int) int { return w[a] - w[b] })
		is, _ := depend.Keeps(n.program, order)
		same(t, n.text, is, true)
		out, _ := run.InOrder(n.program, in, order)
		same(t, n.text, out, want)
	})
}

// use is an access of a statement as it is written.
type use struct {
	sets  bool
	array string
	subs  []api.Form
}

func usesOf(s api.Step) []use {
	l := []use{{true, s.Array, s.Subs}}
	var reads func(x api.Expr)
	reads = func(x api.Expr) {
		if x.Op == api.OpRead {
			l = append(l, use{false, x.Array, x.Subs})
		}
		for _, y := range x.Args {
			reads(y)
		}
	}
	reads(s.Expr)
	return l
}

// own is a form whose variables have another letter at the end.
func own(f api.Form, letter string) api.Form {
	out := api.Form{Const: f.Const}
	for _, x := range f.Terms {
		out.Terms = append(out.Terms, api.Term{Name: x.Name + letter, Coef: x.Coef})
	}
	return out
}

// sidesOf adds the sides of the loops around a statement to points, as far as both are there; true if one has no number between.
func sidesOf(around []api.Step, letter string, low, high *api.Point) bool {
	empty := false
	for _, s := range around {
		least, most := -1<<30, 1<<30
		for _, b := range s.Low {
			for n := -2000; len(b.Form.Terms) == 0 && n < 2000; n++ {
				if n*b.Div >= b.Form.Const {
					least = max(least, n)
					break
				}
			}
		}
		for _, b := range s.High {
			for n := 2000; len(b.Form.Terms) == 0 && n > -2000; n-- {
				if n*b.Div <= b.Form.Const {
					most = min(most, n)
					break
				}
			}
		}
		if s.Kind == api.StepLoop && least > -1<<30 && most < 1<<30 {
			empty = empty || least > most
			*low = append(*low, api.Slot{Name: s.Name + letter, Value: least})
			*high = append(*high, api.Slot{Name: s.Name + letter, Value: most})
		}
	}
	return empty
}

// naiveApart is Apart by Solvable and Span.
func naiveApart(p api.Program, a, b string) bool {
	s, above, _ := nest.Statement(p, a)
	r, over, _ := nest.Statement(p, b)
	var low, high api.Point
	x, y := sidesOf(above, "x", &low, &high), sidesOf(over, "y", &low, &high)
	if x || y {
		return true
	}
	byName := func(a, b api.Slot) int { return strings.Compare(a.Name, b.Name) }
	slices.SortFunc(low, byName)
	slices.SortFunc(high, byName)
	for _, m := range usesOf(s) {
		for _, n := range usesOf(r) {
			if m.array != n.array || !m.sets && !n.sets {
				continue
			}
			apart := false
			for i, f := range m.subs {
				d, _ := nest.Sum(own(f, "x"), 1, own(n.subs[i], "y"), -1)
				is, _ := depend.Solvable(d)
				least, most, e := depend.Span(d, low, high)
				apart = apart || !is || e == api.OK && (least > 0 || most < 0)
			}
			if !apart {
				return false
			}
		}
	}
	return true
}

// meet reports whether instances of two statements with different numbers use a cell that one of them sets.
func (n *naive) meet(a, b string) bool {
	for i, x := range n.instances {
		for k, y := range n.instances {
			if i == k || x.Key != a || y.Key != b {
				continue
			}
			if n.sets[i] == n.sets[k] || n.reads[i][n.sets[k]] || n.reads[k][n.sets[i]] {
				return true
			}
		}
	}
	return false
}

// Apart is as the chapter says; statements that are apart meet nowhere, and have no relation.
func TestApartIsAsNaive(t *testing.T) {
	apart, near, missed := 0, 0, 0
	eachProgram(t, 7, func(g *gen, n *naive) {
		has := map[api.Arrow]bool{}
		for _, a := range n.graph() {
			has[a] = true
		}
		for _, a := range n.names {
			for _, b := range n.names {
				is, e := depend.Apart(n.program, a, b)
				same(t, n.text+a+" "+b, []any{is, e}, []any{naiveApart(n.program, a, b), api.OK})
				meet := n.meet(a, b)
				if is && (meet || has[api.Arrow{From: a, To: b}]) {
					t.Errorf("%s: %s and %s are apart, but meet", n.text, a, b)
				}
				switch {
				case is:
					apart++
				case meet:
					near++
				default:
					missed++
				}
			}
		}
	})
	if min(apart, near, missed) < 50 {
		t.Error("too few pairs", apart, near, missed)
	}
}

// wide makes two statements with indices of any form in loops of any bounds.
func (g *gen) wide(t *testing.T) api.Program {
	one := func(name string) string {
		around := []string{"k"}
		text := ""
		for _, loop := range []string{"i", "j"}[:1+g.below(2)] {
			text += "for " + loop + " = " + g.bounds("max", around[:g.below(len(around)+1)], -6, 3) + " .. " + g.bounds("min", around[:g.below(len(around)+1)], -1, 9) + " { "
			around = append(around, loop)
		}
		index := func() string {
			return g.number(-9, 9) + g.one("+2*", "-3*", "+", "-", "+4*", "-6*") + g.one(around...) + g.one("+3*", "-2*", "+6*", "-", "+") + g.one(around...)
		}
		read := g.one("", " * a["+index()+"]", " - b["+index()+", 1]")
		return text + name + ": b[" + index() + ", " + index() + "] = 1" + read + "; " + strings.Repeat("} ", len(around)-1)
	}
	return program(t, "array a[9]; array b[9, 9]; for k = "+g.number(-3, 3)+" .. "+g.one("", "-")+"3 { "+one("s")+one("t")+"}")
}

func TestApartOfAnyForms(t *testing.T) {
	g := dice(8)
	count := map[bool]int{}
	for range 4000 {
		p := g.wide(t)
		text, _ := nest.Text(p)
		for _, c := range [][2]string{{"s", "t"}, {"t", "s"}, {"s", "s"}} {
			is, e := depend.Apart(p, c[0], c[1])
			same(t, text, []any{is, e}, []any{naiveApart(p, c[0], c[1]), api.OK})
			count[is]++
		}
	}
	if min(count[false], count[true]) < 500 {
		t.Error("too few pairs", count)
	}
}

// Solvable and Span are as all values within a box say.
func TestFormsAreAsNaive(t *testing.T) {
	g := dice(9)
	count := map[bool]int{}
	for range 2000 {
		var f api.Form
		var low, high api.Point
		f.Const = g.below(41) - 20
		for _, name := range []string{"a", "b", "c"} {
			if c := g.below(13) - 6; c != 0 && g.below(3) > 0 {
				f.Terms = append(f.Terms, api.Term{Name: name, Coef: c})
			}
			n := g.below(9) - 4
			low, high = append(low, api.Slot{Name: name, Value: n}), append(high, api.Slot{Name: name, Value: n + g.below(5)})
		}
		var values []int
		for a := low[0].Value; a <= high[0].Value; a++ {
			for b := low[1].Value; b <= high[1].Value; b++ {
				for c := low[2].Value; c <= high[2].Value; c++ {
					v, _ := nest.Value(f, api.Point{{Name: "a", Value: a}, {Name: "b", Value: b}, {Name: "c", Value: c}})
					values = append(values, v)
				}
			}
		}
		least, most, e := depend.Span(f, low, high)
		same(t, fmt.Sprint(f, low, high), []any{least, most, e}, []any{slices.Min(values), slices.Max(values), api.OK})
		is, e := depend.Solvable(f)
		same(t, fmt.Sprint(f), []any{is, e}, []any{hasZero(f), api.OK})
		count[is]++
	}
	if min(count[false], count[true]) < 100 {
		t.Error("too few forms", count)
	}
}

// hasZero looks for values of up to three variables at which a form is 0; that of the last one follows from the others.
func hasZero(f api.Form) bool {
	if len(f.Terms) == 0 {
		return f.Const == 0
	}
	last := f.Terms[len(f.Terms)-1]
	rest := f.Terms[:len(f.Terms)-1]
	for a := range 7 {
		for b := range 7 {
			n := f.Const
			for i, x := range rest {
				n += x.Coef * []int{a, b}[i]
			}
			if n%last.Coef == 0 {
				return true
			}
		}
	}
	return false
}
