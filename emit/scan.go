package emit

import (
	"slices"
	"strconv"

	"warpbeam/affine"
	"warpbeam/api"
	"warpbeam/nest"
	"warpbeam/run"
	"warpbeam/schedule"
)

// scan is what is known of the program that a schedule makes.
type scan struct {
	names      []string // of its loops, from outside to inside
	statements []timed
}

// timed is a statement with its times.
type timed struct {
	key   string
	times []api.Form
	loops []string   // around it in the program, from outside to inside
	set   api.Step   // it, as it stands in the new loops
	conds []api.Form // under which it is done there
}

// span is the values of a loop.
type span struct{ least, most int }

// scanOf goes through the statements of a program with a schedule.
func scanOf(p api.Program, l []api.Plan) (scan, api.Errno) {
	if e := schedule.Check(p, l); e != api.OK {
		return scan{}, e
	}
	var s scan
	// Without plans there are no times.
	if len(l) > 0 {
		for k := range l[0].Times {
			s.names = append(s.names, "t"+strconv.Itoa(k))
		}
	}
	if slices.ContainsFunc(p.Arrays, func(a api.Array) bool { return slices.Contains(s.names, a.Key) }) {
		return scan{}, api.ErrName
	}
	for _, x := range l {
		t, e := timedOf(p, x, s.names)
		if e != api.OK {
			return scan{}, e
		}
		s.statements = append(s.statements, t)
	}
	return s, api.OK
}

// timedOf is the statement of a plan, or why it cannot stand in the new loops.
func timedOf(p api.Program, x api.Plan, names []string) (timed, api.Errno) {
	set, around, e := nest.Statement(p, x.Key)
	if e != api.OK {
		return timed{}, e
	}
	t := timed{key: x.Key, times: x.Times, loops: loopsOf(around)}
	by, solved := solve(x.Times, t.loops, names)
	if !solved {
		return timed{}, api.ErrState
	}
	d, e := affine.Domain(p, x.Key)
	if e != api.OK {
		return timed{}, e
	}
	put := &putter{by: by}
	for _, loop := range t.loops {
		put.check(by[loop])
	}
	// Of a row that the solution uses 0 is left, which is no condition.
	for k, f := range x.Times {
		late := put.less(f, names[k])
		t.conds = append(t.conds, late, negated(late))
	}
	t.conds = append(t.conds, put.forms(d.Conds)...)
	t.conds = slices.DeleteFunc(t.conds, func(f api.Form) bool { return len(f.Terms) == 0 && f.Const >= 0 })
	set.Subs, set.Expr = put.forms(set.Subs), put.expr(set.Expr)
	t.set = set
	if put.wrong != api.OK {
		return timed{}, put.wrong
	}
	return t, api.OK
}

// loopsOf are the names of the loops among steps.
func loopsOf(l []api.Step) []string {
	var names []string
	for _, s := range l {
		if s.Kind == api.StepLoop {
			names = append(names, s.Name)
		}
	}
	return names
}

// checkLegal says why a checked schedule is not legal.
func checkLegal(p api.Program, l []api.Plan) api.Errno {
	_, legal, e := schedule.Legal(p, l)
	if e == api.OK && !legal {
		return api.ErrRule
	}
	return e
}

// spans are the values of the new loops. They are those of affine.Range over all domains; but the instances have the same points, and there are far fewer of them than can be in the boxes of all domains.
func (s scan) spans(p api.Program) ([]span, api.Errno) {
	instances, e := run.Instances(p)
	if e != api.OK {
		return nil, e
	}
	values := map[string][][]int{}
	for _, x := range instances {
		values[x.Key] = append(values[x.Key], x.Values)
	}
	spans := make([]span, len(s.names))
	for i, t := range s.statements {
		if len(values[t.key]) == 0 {
			return nil, api.ErrNone
		}
		for k, f := range t.times {
			x := spanOf(f, t.loops, values[t.key])
			if i > 0 {
				x = span{min(x.least, spans[k].least), max(x.most, spans[k].most)}
			}
			spans[k] = x
		}
	}
	if areLong(spans) {
		return nil, api.ErrFull
	}
	return spans, api.OK
}

// spanOf is from the least to the greatest value of a form, if loops have one of some lists of values, of which there is at least one.
func spanOf(f api.Form, loops []string, values [][]int) span {
	coefs := coefsOf(f, loops)
	var s span
	for i, x := range values {
		n := f.Const
		for j, coef := range coefs {
			n += coef * x[j]
		}
		if i == 0 {
			s = span{n, n}
		}
		s = span{min(s.least, n), max(s.most, n)}
	}
	return s
}

// areLong reports whether the product of the numbers of values is above that of the instances of a run.
func areLong(l []span) bool {
	rounds := 1
	for _, s := range l {
		rounds *= s.most - s.least + 1
		// Asked at each span, as the product of all could be too great for an int.
		if rounds > api.MaxRuns {
			return true
		}
	}
	return false
}

// steps are those of the new program. They can share memory with the old one.
func (s scan) steps(spans []span) []api.Step {
	var body []api.Step
	for _, t := range s.statements {
		body = append(body, under(t.conds, t.set))
	}
	for k := len(s.names) - 1; k >= 0; k-- {
		bound := func(n int) []api.Bound { return []api.Bound{{Form: api.Form{Const: n}, Div: 1}} }
		body = []api.Step{{Kind: api.StepLoop, Name: s.names[k], Low: bound(spans[k].least), High: bound(spans[k].most), Body: body}}
	}
	return body
}

// under is a step under conditions, with as many of them in each StepIf as there can be.
func under(conds []api.Form, s api.Step) api.Step {
	if len(conds) == 0 {
		return s
	}
	n := min(len(conds), api.MaxBounds)
	return api.Step{Kind: api.StepIf, Conds: conds[:n], Body: []api.Step{under(conds[n:], s)}}
}
