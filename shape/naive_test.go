package shape_test

import (
	"fmt"
	"slices"
	"testing"

	"warpbeam/api"
	"warpbeam/nest"
	"warpbeam/run"
)

// spot is where a loop stands in a program that may be changed.
type spot struct {
	list   *[]api.Step // the list with the loop
	at     int
	around []string
}

func (s spot) loop() *api.Step { return &(*s.list)[s.at] }

// spots are those of all loops, by their numbers.
func spots(l *[]api.Step, around []string) []spot {
	var out []spot
	for i := range *l {
		s := &(*l)[i]
		inner := around
		if s.Kind == api.StepLoop {
			out = append(out, spot{l, i, around})
			inner = append(slices.Clone(around), s.Name)
		}
		out = append(out, spots(&s.Body, inner)...)
	}
	return out
}

// put replaces the loop by other steps.
func (s spot) put(l ...api.Step) {
	*s.list = slices.Replace(slices.Clone(*s.list), s.at, s.at+1, l...)
}

// isTight and isPlain are as P6.1 says.
func isTight(s *api.Step) bool { return len(s.Body) == 1 && s.Body[0].Kind == api.StepLoop }

func isPlain(s *api.Step) bool {
	return len(s.Low) == 1 && s.Low[0].Div == 1 && len(s.High) == 1 && s.High[0].Div == 1
}

func uses(l []api.Bound, name string) bool {
	for _, b := range l {
		for _, x := range b.Form.Terms {
			if x.Name == name {
				return true
			}
		}
	}
	return false
}

// added is a form and times another one; the numbers in these tests are small, so nest can do it.
func added(f api.Form, times int, g api.Form) api.Form {
	h, e := nest.Sum(f, 1, g, times)
	if e != api.OK {
		panic(e)
	}
	return h
}

func variable(name string) api.Form { return api.Form{Terms: []api.Term{{Name: name, Coef: 1}}} }

// replace puts a form for a variable, in all steps of a list.
func replace(l []api.Step, name string, by api.Form) {
	put := func(f *api.Form) {
		h, e := nest.Put(*f, name, by)
		if e != api.OK {
			panic(e)
		}
		*f = h
	}
	var expr func(x *api.Expr)
	expr = func(x *api.Expr) {
		put(&x.Form)
		for i := range x.Subs {
			put(&x.Subs[i])
		}
		for i := range x.Args {
			expr(&x.Args[i])
		}
	}
	for i := range l {
		s := &l[i]
		for j := range s.Low {
			put(&s.Low[j].Form)
		}
		for j := range s.High {
			put(&s.High[j].Form)
		}
		for j := range s.Conds {
			put(&s.Conds[j])
		}
		for j := range s.Subs {
			put(&s.Subs[j])
		}
		expr(&s.Expr)
		replace(s.Body, name, by)
	}
}

func raise(l []api.Bound, by api.Form) {
	for i, b := range l {
		l[i].Form = added(b.Form, b.Div, by)
	}
}

// rename puts _2 at the end of the Names of all statements.
func rename(l []api.Step) {
	for i := range l {
		if l[i].Kind == api.StepSet {
			l[i].Name += "_2"
		}
		rename(l[i].Body)
	}
}

// clone is a program that shares nothing.
func clone(p api.Program) api.Program {
	q, e := nest.Renamed(p, nil)
	if e != api.OK {
		panic(e)
	}
	return q
}

func cloned(s api.Step) api.Step {
	var one func(s api.Step) api.Step
	one = func(s api.Step) api.Step {
		s.Low, s.High, s.Conds, s.Subs = slices.Clone(s.Low), slices.Clone(s.High), slices.Clone(s.Conds), slices.Clone(s.Subs)
		s.Body = slices.Clone(s.Body)
		for i := range s.Body {
			s.Body[i] = one(s.Body[i])
		}
		return s
	}
	return one(s)
}

// way is a transformation, done just as the chapter says it: its own error, the change of a program that may be changed, and what the values of an instance of the loop become; those of its loop are at the index d.
type way struct {
	name string
	do   func(p api.Program, n int) (api.Program, api.Errno)
	own  func(s spot) api.Errno
	make func(s spot)
	to   func(key string, values []int, d int, s spot) (string, []int)
}

func form(is bool) api.Errno {
	if is {
		return api.OK
	}
	return api.ErrForm
}

func stay(key string, values []int, d int, s spot) (string, []int) { return key, values }

// valueOf is the value of a form at some values of loops.
func valueOf(f api.Form, names []string, values []int) int {
	n := f.Const
	for _, x := range f.Terms {
		n += x.Coef * values[slices.Index(names, x.Name)]
	}
	return n
}

// naive is a program as it is run.
type naive struct {
	program   api.Program
	text      string
	instances []api.Instance
	touches   []map[api.Spot]bool // true if it sets
}

func naiveOf(p api.Program) (*naive, api.Errno) {
	n := &naive{program: p}
	n.text, _ = nest.Text(p)
	accesses, e := run.Accesses(p)
	n.instances, _ = run.Instances(p)
	for range n.instances {
		n.touches = append(n.touches, map[api.Spot]bool{})
	}
	for _, a := range accesses {
		s := api.Spot{Array: a.Array, Cell: a.Cell}
		n.touches[a.Instance][s] = n.touches[a.Instance][s] || a.Sets
	}
	return n, e
}

// depend reports whether two instances use a cell that one of them sets.
func (n *naive) depend(i, k int) bool {
	for s, sets := range n.touches[i] {
		if also, uses := n.touches[k][s]; uses && (sets || also) {
			return true
		}
	}
	return false
}

// inside reports whether a statement stands in steps.
func inside(l []api.Step, key string) bool {
	return slices.ContainsFunc(l, func(s api.Step) bool {
		return s.Kind == api.StepSet && s.Name == key || inside(s.Body, key)
	})
}

// changed is what a transformation has to return.
func (n *naive) changed(t *testing.T, loop int, w way) (api.Program, api.Errno) {
	q := clone(n.program)
	l := spots(&q.Steps, nil)
	if loop < 0 || loop >= len(l) {
		return api.Program{}, api.ErrNone
	}
	if e := w.own(l[loop]); e != api.OK {
		return api.Program{}, e
	}
	w.make(l[loop])
	if e := nest.Check(q); e != api.OK {
		return api.Program{}, e
	}
	if _, e := run.Accesses(q); e != api.OK {
		return api.Program{}, e
	}
	if n.turned(t, q, loop, w) {
		return api.Program{}, api.ErrRule
	}
	return q, api.OK
}

// turned reports whether something that depends is done in the other order. All instances of the program have to be there, and no others.
func (n *naive) turned(t *testing.T, q api.Program, loop int, w way) bool {
	l, _ := run.Instances(q)
	places := map[string]int{}
	for i, x := range l {
		places[fmt.Sprint(x)] = i
	}
	at := make([]int, len(n.instances))
	old := clone(n.program)
	s := spots(&old.Steps, nil)[loop]
	for i, x := range n.instances {
		if inside(s.loop().Body, x.Key) {
			x.Key, x.Values = w.to(x.Key, slices.Clone(x.Values), len(s.around), s)
		}
		place, found := places[fmt.Sprint(x)]
		if !found {
			t.Errorf("%s of loop %d in %s: no instance %v", w.name, loop, n.text, x)
		}
		at[i] = place
	}
	same(t, w.name+n.text, []int{len(places), len(l)}, []int{len(at), len(at)})
	for k := range at {
		for i := range k {
			if at[i] > at[k] && n.depend(i, k) {
				return true
			}
		}
	}
	return false
}
