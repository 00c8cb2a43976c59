package schedule

import (
	"slices"
	"strings"

	"warpbeam/api"
)

// row is a form with a coefficient for each loop around a statement, also for those that are not in it.
type row struct {
	number int
	coefs  []int
}

func rowOf(f api.Form, loops []string) row {
	r := row{number: f.Const, coefs: make([]int, len(loops))}
	for _, t := range f.Terms {
		r.coefs[slices.Index(loops, t.Name)] = t.Coef
	}
	return r
}

// form is a row as a form.
func (r row) form(loops []string) api.Form {
	f := api.Form{Const: r.number}
	for i, coef := range r.coefs {
		if coef != 0 {
			f.Terms = append(f.Terms, api.Term{Name: loops[i], Coef: coef})
		}
	}
	slices.SortFunc(f.Terms, func(a, b api.Term) int { return strings.Compare(a.Name, b.Name) })
	return f
}

func (r row) value(x []int) int {
	n := r.number
	for i, at := range x {
		n += r.coefs[i] * at
	}
	return n
}

// clock tells the times of the instances of a statement.
type clock []row

func clockOf(s statement, x api.Plan) clock {
	var c clock
	for _, f := range x.Times {
		c = append(c, rowOf(f, s.loops))
	}
	return c
}

func (c clock) time(values []int) []int {
	l := make([]int, 0, len(c))
	for _, r := range c {
		l = append(l, r.value(values))
	}
	return l
}

// timed is the course of a program, and the times of its instances by a schedule, or the error of one of both.
func timed(p api.Program, l []api.Plan) (*course, [][]int, api.Errno) {
	if e := Check(p, l); e != api.OK {
		return nil, nil, e
	}
	c, e := courseOf(p)
	if e != api.OK {
		return nil, nil, e
	}
	clocks := map[string]clock{}
	for i, s := range statementsOf(p) {
		clocks[s.key] = clockOf(s, l[i])
	}
	var times [][]int
	for _, x := range c.instances {
		times = append(times, clocks[x.Key].time(x.Values))
	}
	return c, times, api.OK
}

// byTime is the numbers of instances in the order of their times; those with the same time stay in order.
func byTime(times [][]int) []int {
	order := make([]int, len(times))
	for i := range order {
		order[i] = i
	}
	slices.SortStableFunc(order, func(i, j int) int { return slices.Compare(times[i], times[j]) })
	return order
}

// difference is the first index at which two times differ; false if they are the same.
func difference(a, b []int) (int, bool) {
	for i, n := range a {
		if n != b[i] {
			return i, true
		}
	}
	return 0, false
}
