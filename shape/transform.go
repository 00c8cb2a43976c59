package shape

import (
	"slices"
	"strings"

	"warpbeam/api"
	"warpbeam/nest"
)

// transform makes a change to the loop at a place, if the loop has the form for it.
type transform func(at place) (change, api.Errno)

// change is the steps of a program with a change made, and which instance of the program each one of the result was.
type change struct {
	steps []api.Step
	was   func(api.Instance) api.Instance
}

// stays is a way back for instances that keep their statement and values.
func stays(x api.Instance) api.Instance { return x }

func exchange(at place) (change, api.Errno) {
	if !isTight(at.loop) || hangsOn(at.loop.Body[0], at.loop.Name) {
		return change{}, api.ErrForm
	}
	inner := at.loop.Body[0]
	outer := withBody(at.loop, inner.Body)
	n := len(at.around)
	return change{at.put(withBody(inner, []api.Step{outer})), at.within(func(values []int) []int {
		l := slices.Clone(values)
		l[n], l[n+1] = l[n+1], l[n]
		return l
	})}, api.OK
}

func reverse(at place) (change, api.Errno) {
	if !isPlain(at.loop) {
		return change{}, api.ErrForm
	}
	ends := sum(at.loop.Low[0].Form, 1, at.loop.High[0].Form)
	by := sum(ends, -1, times(1, at.loop.Name))
	body := replaced(at.loop.Body, at.loop.Name, by)
	return change{at.put(withBody(at.loop, body)), at.within(formerly(at.names(), by))}, api.OK
}

func shift(by int) transform {
	return func(at place) (change, api.Errno) {
		if !isWithin(by, api.MaxCoef) {
			return change{}, api.ErrArg
		}
		s := at.loop
		s.Low, s.High = raised(s.Low, number(by)), raised(s.High, number(by))
		was := sum(times(1, s.Name), -1, number(by))
		s.Body = replaced(s.Body, s.Name, was)
		return change{at.put(s), at.within(formerly(at.names(), was))}, api.OK
	}
}

func skew(by int) transform {
	return func(at place) (change, api.Errno) {
		switch {
		case !isTight(at.loop):
			return change{}, api.ErrForm
		case !isWithin(by, api.MaxCoef):
			return change{}, api.ErrArg
		}
		more := times(by, at.loop.Name)
		s := at.loop.Body[0]
		s.Low, s.High = raised(s.Low, more), raised(s.High, more)
		was := sum(times(1, s.Name), -1, more)
		s.Body = replaced(s.Body, s.Name, was)
		names := append(at.names(), s.Name)
		return change{at.put(withBody(at.loop, []api.Step{s})), at.within(formerly(names, was))}, api.OK
	}
}

// formerly is a way back for values: the last one of the loops with some names had the value of a form of what they have now.
func formerly(names []string, f api.Form) func(values []int) []int {
	last := len(names) - 1
	return func(values []int) []int {
		l := slices.Clone(values)
		l[last] = value(f, names, values)
		return l
	}
}

func strip(size int, name string) transform {
	return func(at place) (change, api.Errno) {
		switch {
		case !isName(name):
			return change{}, api.ErrName
		case size < 1 || size > api.MaxCoef:
			return change{}, api.ErrArg
		case !isPlain(at.loop):
			return change{}, api.ErrForm
		}
		over, s := stripped(at.loop, size, name)
		n := len(at.around)
		return change{at.put(withBody(over, []api.Step{s})), at.within(func(values []int) []int {
			return without(values, n)
		})}, api.OK
	}
}

func tile(size int, outer, inner string) transform {
	return func(at place) (change, api.Errno) {
		switch {
		case !isName(outer) || !isName(inner):
			return change{}, api.ErrName
		case size < 1 || size > api.MaxCoef:
			return change{}, api.ErrArg
		case !isTight(at.loop) || !isPlain(at.loop) || !isPlain(at.loop.Body[0]) || hangsOn(at.loop.Body[0], at.loop.Name):
			return change{}, api.ErrForm
		}
		first, x := stripped(at.loop, size, outer)
		second, y := stripped(at.loop.Body[0], size, inner)
		x = withBody(x, []api.Step{y})
		second = withBody(second, []api.Step{x})
		n := len(at.around)
		return change{at.put(withBody(first, []api.Step{second})), at.within(func(values []int) []int {
			return without(without(values, n), n)
		})}, api.OK
	}
}

// stripped is the loop over the strips of a plain loop, without a Body, and the loop over what is in a strip, with the Body of the plain one.
func stripped(s api.Step, size int, name string) (api.Step, api.Step) {
	low, high := s.Low[0].Form, s.High[0].Form
	over := api.Step{
		Kind: api.StepLoop, Name: name,
		Low:  []api.Bound{{Div: 1}},
		High: []api.Bound{{Form: sum(high, -1, low), Div: size}},
	}
	first := sum(low, 1, times(size, name))
	last := sum(first, 1, number(size-1))
	s.Low = []api.Bound{s.Low[0], {Form: first, Div: 1}}
	s.High = []api.Bound{s.High[0], {Form: last, Div: 1}}
	return over, s
}

// without is a list without one of its elements.
func without(l []int, at int) []int { return slices.Concat(l[:at], l[at+1:]) }

func fuse(at place) (change, api.Errno) {
	if len(at.behind) == 0 || !areEqual(at.loop, at.behind[0]) {
		return change{}, api.ErrForm
	}
	next := at.behind[0]
	more := replaced(next.Body, next.Name, times(1, at.loop.Name))
	s := withBody(at.loop, slices.Concat(at.loop.Body, more))
	return change{at.with(slices.Concat([]api.Step{s}, at.behind[1:])), stays}, api.OK
}

// areEqual reports whether a step is a loop with the same bounds as a loop.
func areEqual(s, next api.Step) bool {
	equal := func(a, b api.Bound) bool {
		return a.Div == b.Div && a.Form.Const == b.Form.Const && slices.Equal(a.Form.Terms, b.Form.Terms)
	}
	return next.Kind == api.StepLoop && slices.EqualFunc(s.Low, next.Low, equal) && slices.EqualFunc(s.High, next.High, equal)
}

func split(n int) transform {
	return func(at place) (change, api.Errno) {
		body := at.loop.Body
		if n < 1 || n >= len(body) {
			return change{}, api.ErrArg
		}
		return change{at.put(withBody(at.loop, body[:n]), withBody(at.loop, body[n:])), stays}, api.OK
	}
}

// copyEnd is at the end of the Names of copies.
const copyEnd = "_2"

func cut(n int) transform {
	return func(at place) (change, api.Errno) {
		if !isWithin(n, api.MaxConst) {
			return change{}, api.ErrArg
		}
		first, second := at.loop, at.loop
		first.High = slices.Concat(first.High, []api.Bound{{Form: number(n - 1), Div: 1}})
		second.Low = slices.Concat(second.Low, []api.Bound{{Form: number(n), Div: 1}})
		second.Body = copies(second.Body)
		inside := statementsOf(at.loop.Body)
		return change{at.put(first, second), func(x api.Instance) api.Instance {
			// A result that the checks let pass has no name twice, so what is called like a copy is one.
			if key, is := strings.CutSuffix(x.Key, copyEnd); is && inside[key] {
				x.Key = key
			}
			return x
		}}, api.OK
	}
}

// copies are steps whose statements have other Names.
func copies(l []api.Step) []api.Step {
	return listOf(l, func(s api.Step) api.Step {
		if s.Kind == api.StepSet {
			s.Name += copyEnd
		}
		s.Body = copies(s.Body)
		return s
	})
}

// isWithin reports whether a number is from -most to most.
func isWithin(n, most int) bool { return -most <= n && n <= most }

// isName reports whether a string can be the name of a loop: just those can be variables.
func isName(s string) bool { return nest.CheckForm(times(1, s)) == api.OK }
