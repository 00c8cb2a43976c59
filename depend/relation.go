package depend

import (
	"cmp"
	"slices"
	"strings"

	"warpbeam/api"
	"warpbeam/run"
)

// frame is the loops and statements of a program.
type frame struct {
	loops  int              // how many there are; their numbers are below
	around map[string][]int // the loops around each statement, from outside to inside
	places map[string]int   // of the statements in the program
}

func newFrame(p api.Program) *frame {
	f := &frame{around: map[string][]int{}, places: map[string]int{}}
	f.steps(p.Steps, nil)
	return f
}

func (f *frame) steps(l []api.Step, around []int) {
	for _, s := range l {
		switch s.Kind {
		case api.StepLoop:
			n := f.loops
			f.loops++
			f.steps(s.Body, append(slices.Clone(around), n))
		case api.StepIf:
			f.steps(s.Body, around)
		case api.StepSet:
			f.around[s.Name] = around
			f.places[s.Name] = len(f.places)
		}
	}
}

// common is how many loops two statements have in common.
func (f *frame) common(a, b string) int {
	x, y := f.around[a], f.around[b]
	n := 0
	for n < min(len(x), len(y)) && x[n] == y[n] {
		n++
	}
	return n
}

// carrier is the loop that carries a relation, or none.
func (f *frame) carrier(r api.Relation) int {
	if r.Level == 0 {
		return none
	}
	return f.around[r.From][r.Level-1]
}

// compared is the order of relations.
func (f *frame) compared(a, b api.Relation) int {
	return cmp.Or(
		cmp.Compare(f.places[a.From], f.places[b.From]),
		cmp.Compare(f.places[a.To], f.places[b.To]),
		cmp.Compare(a.Kind, b.Kind),
		strings.Compare(a.Array, b.Array),
		cmp.Compare(a.Level, b.Level),
	)
}

// mark is what the dependences of one relation have in common.
type mark struct {
	kind, level     int
	from, to, array string
}

// summary is the relations of a program, in their order.
type summary struct {
	*frame
	relations []api.Relation
}

// summed is the relations of a program, or the error of its run.
func summed(p api.Program) (*summary, api.Errno) {
	l, e := Direct(p)
	if e != api.OK {
		return nil, e
	}
	instances, e := run.Instances(p)
	if e != api.OK {
		return nil, e
	}
	s := &summary{frame: newFrame(p)}
	sums := map[mark]*api.Relation{}
	for _, d := range l {
		s.add(sums, d, instances[d.From], instances[d.To])
	}
	// No two relations are equal in the order, so that of the map cannot be seen.
	for _, r := range sums {
		s.relations = append(s.relations, *r)
	}
	slices.SortFunc(s.relations, s.compared)
	return s, api.OK
}

// add adds a dependence to its relation.
func (f *frame) add(sums map[mark]*api.Relation, d api.Dependence, from, to api.Instance) {
	distance := make([]int, f.common(from.Key, to.Key))
	for i := range distance {
		distance[i] = to.Values[i] - from.Values[i]
	}
	m := mark{kind: d.Kind, level: levelOf(distance), from: from.Key, to: to.Key, array: d.Array}
	r := sums[m]
	if r == nil {
		r = &api.Relation{
			Kind: m.kind, Level: m.level, From: m.from, To: m.to, Array: m.array,
			Least: slices.Clone(distance), Most: slices.Clone(distance),
		}
		sums[m] = r
	}
	r.Many++
	for i, n := range distance {
		r.Least[i] = min(r.Least[i], n)
		r.Most[i] = max(r.Most[i], n)
	}
}

// levelOf is the number, from 1 on, of the outermost loop with a difference, or 0.
func levelOf(distance []int) int {
	return 1 + slices.IndexFunc(distance, func(n int) bool { return n != 0 })
}
