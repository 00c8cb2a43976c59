package run

import (
	"slices"

	"warpbeam/api"
	"warpbeam/nest"
)

// maxAccesses is how many accesses a run has at most.
const maxAccesses = 200_000

// instance is a statement (its number) with the values of the loops around it.
type instance struct {
	statement int
	values    []int
}

// walk goes through a run: its rounds and instances.
type walk struct {
	plan
	around    []int // the values of the loops around, from outside to inside
	rounds    int
	instances []instance
}

// walked is a whole run, or the program's error, or that of the run.
func walked(p api.Program) (*walk, api.Errno) {
	if e := nest.Check(p); e != api.OK {
		return nil, e
	}
	w := &walk{plan: plan{layout: newLayout(p.Arrays), loops: map[string]int{}}}
	steps := w.steps(p.Steps)
	if e := w.body(steps); e != api.OK {
		return nil, e
	}
	return w, api.OK
}

func (w *walk) body(l []step) api.Errno {
	for _, s := range l {
		if e := w.one(s); e != api.OK {
			return e
		}
	}
	return api.OK
}

func (w *walk) one(s step) api.Errno {
	switch s.kind {
	case api.StepLoop:
		return w.loop(s)
	case api.StepIf:
		if s.holds(w.around) {
			return w.body(s.body)
		}
		return api.OK
	}
	if len(w.instances) == api.MaxRuns {
		return api.ErrFull
	}
	w.instances = append(w.instances, instance{statement: s.statement, values: slices.Clone(w.around)})
	return api.OK
}

func (w *walk) loop(s step) api.Errno {
	low, high := s.span(w.around)
	deep := len(w.around)
	w.around = append(w.around, 0)
	for n := low; n <= high; n++ {
		if n < -api.MaxConst || n > api.MaxConst {
			return api.ErrArg
		}
		if w.rounds == api.MaxRounds {
			return api.ErrFull
		}
		w.rounds++
		w.around[deep] = n
		if e := w.body(s.body); e != api.OK {
			return e
		}
	}
	w.around = w.around[:deep]
	return api.OK
}

// trace is a run with all its accesses.
type trace struct {
	*walk
	accesses []api.Access
	cells    []int // of the accesses, in the memory
	starts   []int // the first access of each instance
}

// traced is a trace, or the error of the program, of its run, or of its accesses.
func traced(p api.Program) (*trace, api.Errno) {
	w, e := walked(p)
	if e != api.OK {
		return nil, e
	}
	t := &trace{walk: w}
	many := 0
	for i, x := range w.instances {
		places := w.statements[x.statement].places
		many += len(places)
		if e := t.access(i, places, many <= maxAccesses); e != api.OK {
			return nil, e
		}
	}
	if many > maxAccesses {
		return nil, api.ErrLarge
	}
	return t, api.OK
}

// access adds the accesses of an instance; if there are too many of them they are just checked, as a wrong one goes before too many.
func (t *trace) access(number int, places []place, fits bool) api.Errno {
	t.starts = append(t.starts, len(t.accesses))
	values := t.instances[number].values
	for i, x := range places {
		cell, found := t.cell(x, values)
		if !found {
			return api.ErrRule
		}
		if fits {
			sets := i == len(places)-1
			t.accesses = append(t.accesses, api.Access{Instance: number, Sets: sets, Array: t.arrays[x.array].Key, Cell: cell})
			t.cells = append(t.cells, t.first[x.array]+cell)
		}
	}
	return api.OK
}

// cell is the number of a cell in its array; false if there is no such cell.
func (t *trace) cell(x place, values []int) (int, bool) {
	n := 0
	for i, size := range t.arrays[x.array].Sizes {
		at := x.subs[i].value(values)
		if at < 0 || at >= size {
			return 0, false
		}
		n = n*size + at
	}
	return n, true
}

// checkOrder says what is wrong with an order of the instances.
func (t *trace) checkOrder(order []int) api.Errno {
	if len(order) != len(t.instances) {
		return api.ErrForm
	}
	seen := make([]bool, len(order))
	for _, i := range order {
		if i < 0 || i >= len(order) {
			return api.ErrNone
		}
		if seen[i] {
			return api.ErrTwice
		}
		seen[i] = true
	}
	return api.OK
}
