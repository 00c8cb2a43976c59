package run

import (
	"slices"

	"warpbeam/api"
	"warpbeam/nest"
)

// none is where an instance would stand, if there is no such one.
const none = -1

// Sources are the instances that set what is read.
func Sources(p api.Program) ([]int, api.Errno) {
	t, e := traced(p)
	if e != api.OK {
		return nil, e
	}
	sources, _ := t.sources()
	return sources, api.OK
}

// Idle are the instances that are not useful for arrays.
func Idle(p api.Program, keys []string) ([]int, api.Errno) {
	_, useful, e := usefulFor(p, keys)
	if e != api.OK {
		return nil, e
	}
	var idle []int
	for i, is := range useful {
		if !is {
			idle = append(idle, i)
		}
	}
	return idle, api.OK
}

// Without leaves statements out.
func Without(p api.Program, names []string) (api.Program, api.Errno) {
	l, e := nest.Statements(p)
	if e != api.OK {
		return api.Program{}, e
	}
	if e := checkNames(names, setOf(l)); e != api.OK {
		return api.Program{}, e
	}
	return without(p, setOf(names))
}

// Trimmed leaves out the statements that are of no use for arrays.
func Trimmed(p api.Program, keys []string) (api.Program, int, api.Errno) {
	t, useful, e := usefulFor(p, keys)
	if e != api.OK {
		return api.Program{}, 0, e
	}
	used := make([]bool, len(t.statements))
	for i, x := range t.instances {
		if useful[i] {
			used[x.statement] = true
		}
	}
	out := map[string]bool{}
	for i, s := range t.statements {
		if !used[i] {
			out[s.name] = true
		}
	}
	q, e := without(p, out)
	if e != api.OK {
		return api.Program{}, 0, e
	}
	return q, len(out), api.OK
}

// Needs are the spots at first on which a spot at the end hangs.
func Needs(p api.Program, s api.Spot) ([]api.Spot, api.Errno) {
	t, e := traced(p)
	if e != api.OK {
		return nil, e
	}
	if e := checkNames([]string{s.Array}, t.keys()); e != api.OK {
		return nil, e
	}
	sources, last := t.sources()
	ends := t.part(last, t.numbers[s.Array])
	if s.Cell < 0 || s.Cell >= len(ends) {
		return nil, api.ErrArg
	}
	if ends[s.Cell] == none {
		return []api.Spot{s}, api.OK
	}
	useful := t.useful(sources, ends[s.Cell:s.Cell+1])
	needed := make([]bool, len(last))
	for i, a := range t.accesses {
		if useful[a.Instance] && !a.Sets && sources[i] == none {
			needed[t.cells[i]] = true
		}
	}
	return t.spots(needed), api.OK
}

// sources are the sources of all accesses, and the last instance that sets each cell of the memory.
func (t *trace) sources() ([]int, []int) {
	last := slices.Repeat([]int{none}, t.first[len(t.arrays)])
	var sources []int
	for i, a := range t.accesses {
		source := none
		if a.Sets {
			last[t.cells[i]] = a.Instance
		} else {
			source = last[t.cells[i]]
		}
		sources = append(sources, source)
	}
	return sources, last
}

// useful tells which instances are among the ends, or sources of reads of useful ones. A source is done ahead of what it is a source of, so one way back finds all.
func (t *trace) useful(sources, ends []int) []bool {
	is := make([]bool, len(t.instances))
	for _, i := range ends {
		if i != none {
			is[i] = true
		}
	}
	for i, a := range slices.Backward(t.accesses) {
		if is[a.Instance] && sources[i] != none {
			is[sources[i]] = true
		}
	}
	return is
}

// usefulFor tells which instances of a program are useful for the arrays with some Keys.
func usefulFor(p api.Program, keys []string) (*trace, []bool, api.Errno) {
	t, e := traced(p)
	if e != api.OK {
		return nil, nil, e
	}
	if e := checkNames(keys, t.keys()); e != api.OK {
		return nil, nil, e
	}
	sources, last := t.sources()
	var ends []int
	for _, key := range keys {
		ends = append(ends, t.part(last, t.numbers[key])...)
	}
	return t, t.useful(sources, ends), api.OK
}

// spots are the cells of the memory that are marked, by Array, then Cell.
func (m layout) spots(marked []bool) []api.Spot {
	var l []api.Spot
	for i, a := range m.arrays {
		for cell := range m.first[i+1] - m.first[i] {
			if marked[m.first[i]+cell] {
				l = append(l, api.Spot{Array: a.Key, Cell: cell})
			}
		}
	}
	return l
}

// without leaves out statements, and makes new memory of what stays: a renaming without names is a copy.
func without(p api.Program, out map[string]bool) (api.Program, api.Errno) {
	return nest.Renamed(api.Program{Arrays: p.Arrays, Steps: stay(p.Steps, out)}, nil)
}

// stay is the steps that are left; those around nothing are not.
func stay(l []api.Step, out map[string]bool) []api.Step {
	var left []api.Step
	for _, s := range l {
		s.Body = stay(s.Body, out)
		if s.Kind == api.StepSet && !out[s.Name] || len(s.Body) > 0 {
			left = append(left, s)
		}
	}
	return left
}
