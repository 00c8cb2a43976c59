package shape

import (
	"slices"

	"warpbeam/api"
)

// simple is what is left of steps. As a Body comes before what is around it, nothing has to be done again.
func simple(l []api.Step) []api.Step {
	var left []api.Step
	for _, s := range l {
		left = append(left, simpleStep(s)...)
	}
	return left
}

// simpleStep is what is left of a step: nothing, itself, or the Body of a condition that always holds.
func simpleStep(s api.Step) []api.Step {
	if s.Kind == api.StepSet {
		return []api.Step{s}
	}
	body := simple(s.Body)
	switch {
	case len(body) == 0 || s.Kind == api.StepIf && neverHolds(s.Conds) || s.Kind == api.StepLoop && hasNoRound(s):
		return nil
	case s.Kind == api.StepLoop:
		return []api.Step{withBody(s, body)}
	}
	s.Conds = slices.DeleteFunc(slices.Clone(s.Conds), isNumber)
	if len(s.Conds) == 0 {
		return body
	}
	return []api.Step{withBody(s, body)}
}

// neverHolds reports whether a condition can be seen not to hold.
func neverHolds(conds []api.Form) bool {
	return slices.ContainsFunc(conds, func(f api.Form) bool { return isNumber(f) && f.Const < 0 })
}

// hasNoRound reports whether two bounds of a loop without variables leave no value between.
func hasNoRound(s api.Step) bool {
	return slices.ContainsFunc(s.Low, func(low api.Bound) bool {
		return slices.ContainsFunc(s.High, func(high api.Bound) bool {
			return isNumber(low.Form) && isNumber(high.Form) && -floor(-low.Form.Const, low.Div) > floor(high.Form.Const, high.Div)
		})
	})
}

// isNumber reports whether a form has no variables.
func isNumber(f api.Form) bool { return len(f.Terms) == 0 }
