package schedule

import (
	"slices"

	"warpbeam/api"
	"warpbeam/nest"
)

// Check says what is wrong with a schedule.
func Check(p api.Program, l []api.Plan) api.Errno {
	if e := nest.Check(p); e != api.OK {
		return e
	}
	statements := statementsOf(p)
	if len(l) != len(statements) {
		return api.ErrForm
	}
	for i, x := range l {
		if e := checkPlan(x, statements[i], len(l[0].Times)); e != api.OK {
			return e
		}
	}
	return api.OK
}

// checkPlan says what is wrong with the plan of a statement that has to have so many Times.
func checkPlan(x api.Plan, s statement, many int) api.Errno {
	switch {
	case !isName(x.Key):
		return api.ErrName
	case x.Key != s.key:
		return api.ErrNone
	case len(x.Times) > api.MaxTimes || len(x.Times) == 0:
		return api.ErrLarge
	case len(x.Times) != many:
		return api.ErrForm
	}
	for _, f := range x.Times {
		if e := s.checkForm(f); e != api.OK {
			return e
		}
	}
	return api.OK
}

// checkForm says what is wrong with a form whose variables have to be loops around a statement.
func (s statement) checkForm(f api.Form) api.Errno {
	if e := nest.CheckForm(f); e != api.OK {
		return e
	}
	for _, t := range f.Terms {
		if !slices.Contains(s.loops, t.Name) {
			return api.ErrRule
		}
	}
	return api.OK
}

// isName reports whether a string can be the name of a statement: the same strings can be variables.
func isName(s string) bool {
	return nest.CheckForm(api.Form{Terms: []api.Term{{Name: s, Coef: 1}}}) == api.OK
}

// areWithin reports whether all numbers are from -most to most.
func areWithin(l []int, most int) bool {
	for _, n := range l {
		if n < -most || n > most {
			return false
		}
	}
	return true
}

// statement is the name of a statement, and those of the loops around it, from outside to inside.
type statement struct {
	key   string
	loops []string
}

// statementsOf are all statements, in their order.
func statementsOf(p api.Program) []statement {
	var l []statement
	var add func(steps []api.Step, loops []string)
	add = func(steps []api.Step, loops []string) {
		for _, s := range steps {
			switch s.Kind {
			case api.StepLoop:
				add(s.Body, append(slices.Clone(loops), s.Name))
			case api.StepIf:
				add(s.Body, loops)
			case api.StepSet:
				l = append(l, statement{key: s.Name, loops: loops})
			}
		}
	}
	add(p.Steps, nil)
	return l
}
