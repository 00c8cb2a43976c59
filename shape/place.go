package shape

import (
	"slices"

	"warpbeam/api"
)

// place is where a loop stands.
type place struct {
	loop   api.Step
	around []string                         // the loops around it, from outside to inside
	behind []api.Step                       // the steps behind it in the same list
	with   func(rest []api.Step) []api.Step // all steps of the program, with others instead of the loop and those behind it
}

// placesOf are the places of all loops, by their numbers.
func placesOf(l []api.Step) []place {
	var s survey
	s.add(l, nil, func(rest []api.Step) []api.Step { return rest })
	return s.places
}

// survey is the places so far.
type survey struct{ places []place }

// add adds the places in a list of steps; whole makes all steps of the program from this list.
func (s *survey) add(l []api.Step, around []string, whole func([]api.Step) []api.Step) {
	for i, x := range l {
		before, behind := l[:i], l[i+1:]
		inner := around
		if x.Kind == api.StepLoop {
			s.places = append(s.places, place{loop: x, around: around, behind: behind, with: func(rest []api.Step) []api.Step {
				return whole(slices.Concat(before, rest))
			}})
			inner = append(slices.Clone(around), x.Name)
		}
		s.add(x.Body, inner, func(body []api.Step) []api.Step {
			return whole(slices.Concat(before, []api.Step{withBody(x, body)}, behind))
		})
	}
}

// put is all steps of the program, with others instead of the loop.
func (at place) put(l ...api.Step) []api.Step { return at.with(slices.Concat(l, at.behind)) }

// names are the loops around what is in the loop, up to the loop itself.
func (at place) names() []string { return append(slices.Clone(at.around), at.loop.Name) }

// within is a way back that changes just the values of instances in the loop.
func (at place) within(was func(values []int) []int) func(api.Instance) api.Instance {
	inside := statementsOf(at.loop.Body)
	return func(x api.Instance) api.Instance {
		if inside[x.Key] {
			x.Values = was(x.Values)
		}
		return x
	}
}

// statementsOf are the statements in steps.
func statementsOf(l []api.Step) map[string]bool {
	names := map[string]bool{}
	each(l, func(s api.Step) {
		if s.Kind == api.StepSet {
			names[s.Name] = true
		}
	})
	return names
}

// count is how many steps there are, with all in them.
func count(l []api.Step) int {
	n := 0
	each(l, func(api.Step) { n++ })
	return n
}

// each visits all steps, each one before those in its Body.
func each(l []api.Step, visit func(api.Step)) {
	for _, s := range l {
		visit(s)
		each(s.Body, visit)
	}
}

// withBody is a step with another Body.
func withBody(s api.Step, body []api.Step) api.Step {
	s.Body = body
	return s
}

// isTight reports whether the Body of a loop is just one loop.
func isTight(s api.Step) bool { return len(s.Body) == 1 && s.Body[0].Kind == api.StepLoop }

// isPlain reports whether a loop has one Low and one High, both with Div 1.
func isPlain(s api.Step) bool {
	return len(s.Low) == 1 && len(s.High) == 1 && s.Low[0].Div == 1 && s.High[0].Div == 1
}

// hangsOn reports whether a bound of a loop has a variable.
func hangsOn(s api.Step, name string) bool {
	return slices.ContainsFunc(slices.Concat(s.Low, s.High), func(b api.Bound) bool { return coefOf(b.Form, name) != 0 })
}
