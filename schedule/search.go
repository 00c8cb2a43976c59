package schedule

import (
	"slices"

	"warpbeam/api"
	"warpbeam/depend"
	"warpbeam/nest"
)

const (
	maxNumber    = 3     // the greatest number in a schedule that is looked for
	maxSchedules = 5_000 // to look at
	maxNumbers   = 12    // of a schedule that is looked at: with one more there were at least 2 to the power of 13 schedules
)

// Search looks for the schedule with the least latency.
func Search(p api.Program, most int) ([]api.Plan, int, bool, api.Errno) {
	if e := nest.Check(p); e != api.OK {
		return nil, 0, false, e
	}
	if most < 1 || most > maxNumber {
		return nil, 0, false, api.ErrArg
	}
	statements := statementsOf(p)
	if !areFew(statements, most) {
		return nil, 0, false, api.ErrFull
	}
	c, e := courseOf(p)
	if e != api.OK {
		return nil, 0, false, e
	}
	direct, e := depend.Direct(p)
	if e != api.OK {
		return nil, 0, false, e
	}
	_, least, e := depend.Waves(p)
	if e != api.OK {
		return nil, 0, false, e
	}
	best, latency, found := newSearch(statements, c, direct).best(most, least)
	if !found {
		return nil, 0, false, api.OK
	}
	return plansOf(statements, best), latency, true, api.OK
}

// areFew reports whether there are not too many schedules to look at.
func areFew(l []statement, most int) bool {
	many := 1
	for _, s := range l {
		for range len(s.loops) + 1 {
			many *= most + 1
			// Asked at each number, as the product of all could be too great for an int.
			if many > maxSchedules {
				return false
			}
		}
	}
	return true
}

// weights say how often each number of a schedule counts. The numbers are, for each statement, the Coefs of the loops around it, from outside to inside, and then Const.
type weights [maxNumbers]int

func (w *weights) value(numbers []int) int {
	sum := 0
	for i, n := range numbers {
		sum += w[i] * n
	}
	return sum
}

// search has what all schedules are tried with.
type search struct {
	many  int       // numbers of a schedule
	times []weights // of the instances
	gaps  []weights // what has to be above 0: times, less those of instances on which they depend
}

func newSearch(l []statement, c *course, direct []api.Dependence) *search {
	s := &search{}
	firsts := map[string]int{}
	for _, x := range l {
		firsts[x.key] = s.many
		s.many += len(x.loops) + 1
	}
	for _, x := range c.instances {
		var w weights
		n := copy(w[firsts[x.Key]:], x.Values)
		w[firsts[x.Key]+n] = 1
		s.times = append(s.times, w)
	}
	// If instances that depend directly on each other are in order, then so are all others: each pair is one of them, or leads over several of them.
	known := map[weights]bool{}
	for _, d := range direct {
		w := s.times[d.To]
		for i, n := range s.times[d.From] {
			w[i] -= n
		}
		if !known[w] {
			known[w] = true
			s.gaps = append(s.gaps, w)
		}
	}
	return s
}

// best is the first one of the schedules with the least latency, which is not below least, and this latency; false if none is legal.
func (s *search) best(most, least int) ([]int, int, bool) {
	numbers := make([]int, s.many)
	var best []int
	found, latency := false, len(s.times)+1
	for more := true; more && latency > least; more = next(numbers, most) {
		// All gaps are asked last, as there can be far more of them than what is asked before.
		if !s.mayBeLegal(numbers) {
			continue
		}
		if n := s.latency(numbers, latency); n < latency && s.isLegal(numbers) {
			best, found, latency = slices.Clone(numbers), true, n
		}
	}
	return best, latency, found
}

// next makes numbers the next ones in order; false if they were the last ones.
func next(numbers []int, most int) bool {
	for i, n := range slices.Backward(numbers) {
		if n < most {
			numbers[i]++
			return true
		}
		numbers[i] = 0
	}
	return false
}

// mayBeLegal asks the first gap alone.
func (s *search) mayBeLegal(numbers []int) bool {
	return len(s.gaps) == 0 || s.gaps[0].value(numbers) > 0
}

func (s *search) isLegal(numbers []int) bool {
	for i := range s.gaps {
		if s.gaps[i].value(numbers) <= 0 {
			// What one schedule fails at, others mostly do, too: it is asked first from now on.
			s.gaps[0], s.gaps[i] = s.gaps[i], s.gaps[0]
			return false
		}
	}
	return true
}

// latency is how many different times there are, or enough if there are at least so many.
func (s *search) latency(numbers []int, enough int) int {
	seen := map[int]bool{}
	for i := range s.times {
		seen[s.times[i].value(numbers)] = true
		if len(seen) == enough {
			break
		}
	}
	return len(seen)
}

// plansOf is the schedule with some numbers.
func plansOf(l []statement, numbers []int) []api.Plan {
	var plans []api.Plan
	for _, x := range l {
		n := len(x.loops)
		r := row{number: numbers[n], coefs: numbers[:n]}
		plans = append(plans, api.Plan{Key: x.key, Times: []api.Form{r.form(x.loops)}})
		numbers = numbers[n+1:]
	}
	return plans
}
