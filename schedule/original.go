package schedule

import (
	"slices"

	"warpbeam/api"
	"warpbeam/nest"
)

// Original is the schedule with the order of the program.
func Original(p api.Program) ([]api.Plan, api.Errno) {
	if e := nest.Check(p); e != api.OK {
		return nil, e
	}
	var o original
	o.add(p.Steps, nil, 0)
	longest := 0
	for _, x := range o.plans {
		longest = max(longest, len(x.Times))
	}
	if longest > api.MaxTimes {
		return nil, api.ErrLarge
	}
	for i, x := range o.plans {
		more := make([]api.Form, longest-len(x.Times))
		o.plans[i].Times = append(x.Times, more...)
	}
	return o.plans, api.OK
}

// original is the plans of the statements so far, each one as long as the way to it.
type original struct{ plans []api.Plan }

// stair is a loop on the way to a statement, with its index among the steps next to it.
type stair struct {
	index int
	loop  string
}

// add adds the plans of all statements in a list of steps, the first one of which has an index, and returns the index behind the last one.
func (o *original) add(l []api.Step, way []stair, index int) int {
	for _, s := range l {
		switch s.Kind {
		case api.StepIf:
			// The steps in it stand in its place.
			index = o.add(s.Body, way, index)
			continue
		case api.StepLoop:
			o.add(s.Body, append(slices.Clone(way), stair{index: index, loop: s.Name}), 0)
		case api.StepSet:
			o.plans = append(o.plans, planOf(s.Name, way, index))
		}
		index++
	}
	return index
}

// planOf is the plan of a statement with an index at the end of a way.
func planOf(key string, way []stair, index int) api.Plan {
	x := api.Plan{Key: key}
	for _, s := range way {
		loop := api.Form{Terms: []api.Term{{Name: s.loop, Coef: 1}}}
		x.Times = append(x.Times, api.Form{Const: s.index}, loop)
	}
	x.Times = append(x.Times, api.Form{Const: index})
	return x
}
