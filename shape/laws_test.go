package shape_test

import (
	"fmt"
	"strings"
	"testing"

	"warpbeam/api"
	"warpbeam/depend"
	"warpbeam/nest"
	"warpbeam/run"
	"warpbeam/shape"
)

// eachProgram calls test with many programs that can be run.
func eachProgram(t *testing.T, seed uint64, test func(g *gen, n *naive)) {
	t.Helper()
	g := dice(seed)
	many := 0
	for range 2500 {
		n, e := naiveOf(g.program(t))
		if e != api.OK || len(n.instances) == 0 || len(n.instances) > 60 {
			continue
		}
		many++
		test(g, n)
	}
	if many < 300 {
		t.Errorf("just %d programs", many)
	}
}

// loops is how many loops a program has.
func loops(p api.Program) int {
	n, _, _ := nest.Loops(p)
	return n
}

// What is changed is as the chapter says, and computes the same on all grids.
func TestChangesAreAsNaive(t *testing.T) {
	count := map[string]int{}
	eachProgram(t, 1, func(g *gen, n *naive) {
		for _, w := range g.ways() {
			for loop := -1; loop <= loops(n.program); loop++ {
				got, e := w.do(n.program, loop)
				want, f := n.changed(t, loop, w)
				same(t, fmt.Sprint(w.name, " of loop ", loop, " in ", n.text), made(got, e), made(want, f))
				count[fmt.Sprint(strings.Fields(w.name)[0], " ", int(e))]++
				if e != api.OK {
					continue
				}
				same(t, "arrays", got.Arrays, n.program.Arrays)
				_, found, e := run.Differ(n.program, got, [][]api.Grid{nil, g.grids(n.program), g.grids(n.program)})
				same(t, w.name+n.text, []any{found, e}, []any{false, api.OK})
			}
		}
	})
	for _, s := range []string{"Exchange 0", "Exchange 3", "Exchange 16", "Reverse 0", "Reverse 3", "Reverse 16", "Shift 0", "Skew 0", "Skew 3", "Strip 0", "Strip 3", "Strip 6", "Tile 0", "Tile 3", "Tile 6", "Fuse 0", "Fuse 3", "Fuse 16", "Split 0", "Split 1", "Split 16", "Cut 0"} {
		if count[s] < 15 {
			t.Error("too few of", s, count)
		}
	}
	// Of these no change turns anything.
	same(t, "never turned", []int{count["Shift 16"], count["Skew 16"], count["Strip 16"], count["Cut 16"]}, "[0 0 0 0]")
}

// square makes a tight loop whose instances depend on others around them.
func (g *gen) square(t *testing.T) api.Program {
	around := func() string { return "c[i" + g.number(-1, 1) + ", j" + g.number(-2, 2) + "]" }
	return program(t, "array c[9, 9]; for h = 0 .. 1 { for i = 1 .. 4 { for j = 2 .. "+g.one("3", "4 + h")+" { s: c[i, j] = "+around()+" + "+g.one("1", around())+"; } } }")
}

func TestTilesAreAsNaive(t *testing.T) {
	g := dice(6)
	count := map[api.Errno]int{}
	for range 400 {
		n, _ := naiveOf(g.square(t))
		for _, w := range []way{tileWay(1+g.below(4), "x", "y"), exchangeWay()} {
			loop := g.below(2)
			got, e := w.do(n.program, loop)
			want, f := n.changed(t, loop, w)
			same(t, fmt.Sprint(w.name, n.text), made(got, e), made(want, f))
			count[e]++
		}
	}
	if min(count[api.OK], count[api.ErrRule]) < 100 {
		t.Error("too few tiles", count)
	}
}

// P6.6: Moves are those of all that can be done; Do does them.
func TestMovesAreAsNaive(t *testing.T) {
	kinds := [5]int{}
	eachProgram(t, 2, func(g *gen, n *naive) {
		var want []api.Move
		for loop := range loops(n.program) {
			for kind, w := range []way{exchangeWay(), reverseWay(), fuseWay()} {
				if _, e := n.changed(t, loop, w); e == api.OK {
					want = append(want, api.Move{Kind: kind + 1, Loop: loop})
				}
			}
			for at := range 10 {
				if _, e := n.changed(t, loop, splitWay(at)); e == api.OK {
					want = append(want, api.Move{Kind: api.MoveSplit, Loop: loop, Arg: at})
				}
			}
		}
		l, e := shape.Moves(n.program)
		same(t, n.text, []any{l, e}, []any{want, api.OK})
		for _, m := range l {
			kinds[m.Kind]++
			_, e := shape.Do(n.program, m)
			same(t, n.text, e, api.OK)
		}
		for kind := -1; kind < 8; kind++ {
			m := api.Move{Kind: kind, Loop: g.below(5) - 1, Arg: g.below(4) - 1}
			same(t, fmt.Sprint(n.text, m), made(shape.Do(n.program, m)), doing(n.program, m))
		}
	})
	for _, many := range kinds[1:] {
		if many < 50 {
			t.Error("too few moves", kinds)
		}
	}
}

// doing is what Do has to return.
func doing(p api.Program, m api.Move) string {
	if m.Arg != 0 && m.Kind >= api.MoveExchange && m.Kind <= api.MoveFuse {
		return errors(api.ErrForm)
	}
	switch m.Kind {
	case api.MoveExchange:
		return made(shape.Exchange(p, m.Loop))
	case api.MoveReverse:
		return made(shape.Reverse(p, m.Loop))
	case api.MoveFuse:
		return made(shape.Fuse(p, m.Loop))
	case api.MoveSplit:
		return made(shape.Split(p, m.Loop, m.Arg))
	case api.MoveShift:
		return made(shape.Shift(p, m.Loop, m.Arg))
	case api.MoveSkew:
		return made(shape.Skew(p, m.Loop, m.Arg))
	}
	return errors(api.ErrKind)
}

// What follows: some changes, done again, give the program back; plain loops that carry nothing can be reversed.
func TestChangesThatUndo(t *testing.T) {
	count := [5]int{}
	eachProgram(t, 3, func(g *gen, n *naive) {
		want := steps(n.program)
		undone := func(kind int, again func(p api.Program, n int) (api.Program, api.Errno), loop int, q api.Program, e api.Errno) {
			if e == api.OK {
				count[kind]++
				same(t, want, made(again(q, loop)), want)
			}
		}
		by := g.below(9) - 4
		for loop := range loops(n.program) {
			q, e := shape.Exchange(n.program, loop)
			undone(0, shape.Exchange, loop, q, e)
			q, e = shape.Reverse(n.program, loop)
			undone(1, shape.Reverse, loop, q, e)
			q, e = shape.Shift(n.program, loop, by)
			undone(2, func(p api.Program, n int) (api.Program, api.Errno) { return shape.Shift(p, n, -by) }, loop, q, e)
			q, e = shape.Split(n.program, loop, 1)
			undone(3, shape.Fuse, loop, q, e)
		}
		l, _ := depend.Free(n.program)
		for _, loop := range l {
			_, e := shape.Reverse(n.program, loop)
			if e != api.ErrForm {
				same(t, fmt.Sprint(want, loop), e, api.OK)
				count[4]++
			}
		}
	})
	for _, many := range count {
		if many < 50 {
			t.Error("too few changes", count)
		}
	}
}

// A strip by itself changes no order: what is left of the instances is in the order of the program.
func TestStripsChangeNoOrder(t *testing.T) {
	many := 0
	eachProgram(t, 4, func(g *gen, n *naive) {
		q, e := shape.Strip(n.program, 0, 2, "x")
		if e != api.OK {
			return
		}
		many++
		l, _ := run.Instances(q)
		for i, x := range l {
			same(t, n.text, x.Key, n.instances[i].Key)
			// Loop 0 has no loop around it.
			if inside(spots(&q.Steps, nil)[0].loop().Body, x.Key) {
				x.Values = x.Values[1:]
			}
			same(t, n.text, x.Values, n.instances[i].Values)
		}
	})
	if many < 50 {
		t.Error("too few strips", many)
	}
}

// done is a step that Simple leaves out, or that of its Body which is left; told twice, once from inside to outside and once round by round, both have to be the same.
func done(l []api.Step) ([]api.Step, bool) {
	for i, s := range l {
		by, changes := []api.Step{}, s.Kind != api.StepSet && len(s.Body) == 0
		for _, f := range s.Conds {
			changes = changes || len(f.Terms) == 0 && f.Const < 0
		}
		for _, low := range s.Low {
			for _, high := range s.High {
				// Multiplied by both Divs, there has to be a number n with low <= n <= high.
				some := false
				for n := -50; n <= 50; n++ {
					some = some || n*low.Div >= low.Form.Const && n*high.Div <= high.Form.Const
				}
				changes = changes || len(low.Form.Terms)+len(high.Form.Terms) == 0 && !some
			}
		}
		for j, f := range s.Conds {
			if !changes && len(f.Terms) == 0 {
				s.Conds = append(append([]api.Form{}, s.Conds[:j]...), s.Conds[j+1:]...)
				by, changes = []api.Step{s}, true
				if len(s.Conds) == 0 {
					by = s.Body
				}
				break
			}
		}
		if body, is := done(s.Body); is && !changes {
			s.Body = body
			by, changes = []api.Step{s}, true
		}
		if changes {
			return append(append(append([]api.Step{}, l[:i]...), by...), l[i+1:]...), true
		}
	}
	return l, false
}

func all(l []api.Step) int {
	n := len(l)
	for _, s := range l {
		n += all(s.Body)
	}
	return n
}

func TestSimpleIsAsNaive(t *testing.T) {
	g := dice(5)
	fewer := 0
	for range 3000 {
		p := g.idle(t)
		text, _ := nest.Text(p)
		l, more := p.Steps, true
		for more {
			l, more = done(l)
		}
		q, n, e := shape.Simple(p)
		same(t, text, []any{made(q, e), n}, []any{made(api.Program{Arrays: p.Arrays, Steps: l}, api.OK), all(p.Steps) - all(l)})
		fewer += n
		before, a := run.Instances(p)
		after, b := run.Instances(q)
		same(t, text, []any{after, b}, []any{before, a})
		again, m, _ := shape.Simple(q)
		same(t, text, []any{steps(again), m}, []any{steps(q), 0})
	}
	if fewer < 3000 {
		t.Error("too few steps", fewer)
	}
}

// idle makes a program with much that is never done.
func (g *gen) idle(t *testing.T) api.Program {
	g.count = 0
	return program(t, "array a[9]; "+g.idleSteps(nil, 1))
}

func (g *gen) idleSteps(around []string, depth int) string {
	text := ""
	for range g.below(4) {
		name := g.fresh(around)
		number := func() string { return "(" + g.number(-4, 4) + ")/" + g.one("2", "3") }
		end := func() string { return g.one(number(), g.number(-2, 2), g.form(around, -1, 1)) }
		switch kind := g.below(5); {
		case kind < 2 && depth < 5:
			text += "for " + name + " = " + g.one(end(), "max("+end()+", "+end()+")") + " .. " + g.one(end(), "min("+end()+", "+end()+")") + " { " + g.idleSteps(append(around[:len(around):len(around)], name), depth+1) + "} "
		case kind < 4 && depth < 5:
			cond := func() string { return g.one(g.number(-1, 3), g.form(around, 0, 2)) + " >= 0" }
			text += "if " + g.one(cond(), cond()+", "+cond()+", "+cond()) + " { " + g.idleSteps(around, depth+1) + "} "
		default:
			g.count++
			text += fmt.Sprint("s", g.count, ": a[", g.below(9), "] = ", g.below(9), "; ")
		}
	}
	return text
}
