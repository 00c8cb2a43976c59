package shape

import (
	"slices"

	"warpbeam/api"
	"warpbeam/depend"
	"warpbeam/run"
)

// course is a program with its loops, its instances, and how they depend on each other.
type course struct {
	program   api.Program
	places    []place
	instances []api.Instance
	numbers   map[string][]int // of the instances of each statement, rising
	direct    []api.Dependence
}

// courseOf is the course of a program, or why it has none.
func courseOf(p api.Program) (*course, api.Errno) {
	direct, e := depend.Direct(p)
	if e != api.OK {
		return nil, e
	}
	instances, e := run.Instances(p)
	if e != api.OK {
		return nil, e
	}
	c := &course{program: p, places: placesOf(p.Steps), instances: instances, numbers: map[string][]int{}, direct: direct}
	for i, x := range instances {
		c.numbers[x.Key] = append(c.numbers[x.Key], i)
	}
	return c, api.OK
}

// number is the number of an instance. Those of one statement are done in the order of their values, as the values of all loops rise.
func (c *course) number(x api.Instance) int {
	l := c.numbers[x.Key]
	at, _ := slices.BinarySearchFunc(l, x.Values, func(i int, values []int) int {
		return slices.Compare(c.instances[i].Values, values)
	})
	return l[at]
}

// changed is the program with the loop that has a number transformed. It can share memory with the program.
func (c *course) changed(n int, t transform) (api.Program, api.Errno) {
	if n < 0 || n >= len(c.places) {
		return api.Program{}, api.ErrNone
	}
	x, e := t(c.places[n])
	if e != api.OK {
		return api.Program{}, e
	}
	q := api.Program{Arrays: c.program.Arrays, Steps: x.steps}
	// These are all errors that run.Accesses can have for it, too: its instances use the same cells as those of the program, so their indices are right, and they are not too many.
	instances, e := run.Instances(q)
	if e != api.OK {
		return api.Program{}, e
	}
	if !c.keeps(instances, x.was) {
		return api.Program{}, api.ErrRule
	}
	return q, api.OK
}

// keeps reports whether all that depends on each other stays in order, if instances are done that were those of the program.
func (c *course) keeps(instances []api.Instance, was func(api.Instance) api.Instance) bool {
	at := make([]int, len(instances))
	for i, x := range instances {
		at[c.number(was(x))] = i
	}
	turned := func(d api.Dependence) bool { return at[d.From] > at[d.To] }
	return !slices.ContainsFunc(c.direct, turned)
}

// copied is the same as changed, but shares no memory.
func (c *course) copied(n int, t transform) (api.Program, api.Errno) {
	q, e := c.changed(n, t)
	if e != api.OK {
		return api.Program{}, e
	}
	return copyOf(q)
}
