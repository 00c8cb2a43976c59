package emit

import (
	"slices"

	"warpbeam/api"
	"warpbeam/schedule"
)

// Registers for numbers with a use of their own. The others are for loops.
const (
	zero    = iota // it is always 0
	one            // it is always 1, but for the first instruction
	result         // a form, a bound or the number of a cell
	part           // a form that is a part of it
	summand        // a term of a form
	step           // the distance between the cells of a vector, or between its values
	firstLoop
)

// coder writes the code of a program.
type coder struct {
	code     []api.Order
	arrays   []api.Array
	numbers  map[string]int // of the arrays, by Key
	loops    map[string]int // the registers with the values of the loops around
	free     int            // the first register that no loop around uses
	wide     int            // how many values vectors have where they can
	parallel []bool         // whether loops with so many loops around them are parallel
	along    string         // the loop along which values of vectors lie; vectors have one value where it is empty
}

// codeOf is the code of a checked program; loops with as many loops around them as parallel says are done with vectors.
func codeOf(p api.Program, wide int, parallel []bool) ([]api.Order, api.Errno) {
	c := &coder{arrays: p.Arrays, numbers: map[string]int{}, loops: map[string]int{}, free: firstLoop, wide: wide, parallel: parallel}
	for i, a := range p.Arrays {
		c.numbers[a.Key] = i
	}
	c.put(api.Order{Do: api.DoSet, A: one, K: 1})
	c.steps(p.Steps)
	c.put(api.Order{Do: api.DoHalt})
	if c.isFull() {
		return nil, api.ErrFull
	}
	return c.code, api.OK
}

// parallelDepths says of each number of loops whether loops with so many ones around them are parallel.
func parallelDepths(p api.Program) ([]bool, api.Errno) {
	l, e := schedule.Original(p)
	if e != api.OK {
		return nil, e
	}
	times, e := schedule.Parallel(p, l)
	if e != api.OK {
		return nil, e
	}
	var depths []bool
	for i, is := range times {
		// Each second time is a loop.
		if i%2 == 1 {
			depths = append(depths, is)
		}
	}
	return depths, api.OK
}

// put adds an instruction and returns its number. Code that is too long is not kept, as it could become far longer.
func (c *coder) put(o api.Order) int {
	if !c.isFull() {
		c.code = append(c.code, o)
	}
	return len(c.code) - 1
}

func (c *coder) isFull() bool { return len(c.code) > api.MaxCode }

// lead lets a jump lead to the instruction that comes next.
func (c *coder) lead(jump int) { c.code[jump].K = len(c.code) }

func (c *coder) steps(l []api.Step) {
	for _, s := range l {
		switch s.Kind {
		case api.StepLoop:
			c.loop(s)
		case api.StepIf:
			c.condition(s)
		case api.StepSet:
			c.statement(s)
		}
	}
}

func (c *coder) condition(s api.Step) {
	var jumps []int
	for _, f := range s.Conds {
		value := c.form(f, result)
		jump := c.put(api.Order{Do: api.DoLess, A: value, B: zero})
		jumps = append(jumps, jump)
	}
	c.steps(s.Body)
	for _, jump := range jumps {
		c.lead(jump)
	}
}

func (c *coder) loop(s api.Step) {
	x, last := c.free, c.free+1
	c.free += 2
	c.low(s.Low, x)
	c.high(s.High, last)
	c.loops[s.Name] = x
	if c.isVector(s) {
		c.vectors(s, x, last)
	}
	c.rounds(s.Body, x, last, one)
	delete(c.loops, s.Name)
	c.free -= 2
}

// isVector reports whether rounds of a loop, whose variable is known already, are done with vectors.
func (c *coder) isVector(s api.Step) bool {
	isOther := func(x api.Step) bool { return x.Kind != api.StepSet }
	around := len(c.loops) - 1
	return around < len(c.parallel) && c.parallel[around] && len(s.Body) > 0 && !slices.ContainsFunc(s.Body, isOther)
}

// vectors does rounds of a loop with vectors, as long as there are enough of them left.
func (c *coder) vectors(s api.Step, x, last int) {
	most, by := c.free, c.free+1
	c.put(api.Order{Do: api.DoSet, A: by, K: c.wide})
	c.put(api.Order{Do: api.DoSub, A: most, B: last, C: by})
	c.put(api.Order{Do: api.DoAdd, A: most, B: most, C: one})
	c.put(api.Order{Do: api.DoWide, K: c.wide})
	c.along = s.Name
	c.rounds(s.Body, x, most, by)
	c.along = ""
	c.put(api.Order{Do: api.DoWide, K: 1})
}

// rounds does rounds from the value in a register up to that in another one; the value rises by that in a third one.
func (c *coder) rounds(body []api.Step, x, last, by int) {
	first := c.put(api.Order{Do: api.DoLess, A: last, B: x})
	c.steps(body)
	c.put(api.Order{Do: api.DoAdd, A: x, B: x, C: by})
	c.put(api.Order{Do: api.DoJump, K: first})
	c.lead(first)
}

// low puts the greatest one of bounds into a register.
func (c *coder) low(l []api.Bound, to int) {
	c.up(l[0], to)
	for _, b := range l[1:] {
		c.up(b, part)
		skip := c.put(api.Order{Do: api.DoLess, A: part, B: to})
		c.copy(part, to)
		c.lead(skip)
	}
}

// high puts the least one of bounds into a register.
func (c *coder) high(l []api.Bound, to int) {
	c.down(l[0], to)
	for _, b := range l[1:] {
		c.down(b, part)
		skip := c.put(api.Order{Do: api.DoLess, A: to, B: part})
		c.copy(part, to)
		c.lead(skip)
	}
}

// up puts a bound, rounded up, into a register.
func (c *coder) up(b api.Bound, to int) {
	if b.Div == 1 {
		c.down(b, to)
		return
	}
	// The machine rounds down alone, so it gets the negated form: a form with Div - 1 added could have too great a Const.
	c.down(api.Bound{Form: negated(b.Form), Div: b.Div}, to)
	c.put(api.Order{Do: api.DoMul, A: to, B: to, K: -1})
}

// down puts a bound, rounded down, into a register.
func (c *coder) down(b api.Bound, to int) {
	from := c.form(b.Form, to)
	if b.Div > 1 {
		c.put(api.Order{Do: api.DoDiv, A: to, B: from, K: b.Div})
	} else if from != to {
		c.copy(from, to)
	}
}

func negated(f api.Form) api.Form {
	f.Const, f.Terms = -f.Const, slices.Clone(f.Terms)
	for i := range f.Terms {
		f.Terms[i].Coef *= -1
	}
	return f
}

// copy puts a register into another one.
func (c *coder) copy(from, to int) {
	c.put(api.Order{Do: api.DoAdd, A: to, B: from, C: zero})
}

// number is a register with a number: to, or one that has it already.
func (c *coder) number(n, to int) int {
	switch n {
	case 0:
		return zero
	case 1:
		return one
	}
	c.put(api.Order{Do: api.DoSet, A: to, K: n})
	return to
}

// form is a register with the value of a form: to, or one that has it already.
func (c *coder) form(f api.Form, to int) int {
	if len(f.Terms) == 0 {
		return c.number(f.Const, to)
	}
	sum := zero
	if f.Const != 0 {
		sum = c.number(f.Const, to)
	}
	for _, t := range f.Terms {
		sum = c.add(sum, t, to)
	}
	return sum
}

// add is a register with the sum of another one and a term: to, or one that has it already.
func (c *coder) add(sum int, t api.Term, to int) int {
	x := c.loops[t.Name]
	switch {
	case t.Coef == 1 && sum == zero:
		return x
	case t.Coef == 1:
		c.put(api.Order{Do: api.DoAdd, A: to, B: sum, C: x})
	case t.Coef == -1:
		c.put(api.Order{Do: api.DoSub, A: to, B: sum, C: x})
	case sum == zero:
		c.put(api.Order{Do: api.DoMul, A: to, B: x, K: t.Coef})
	default:
		c.put(api.Order{Do: api.DoMul, A: summand, B: x, K: t.Coef})
		c.put(api.Order{Do: api.DoAdd, A: to, B: sum, C: summand})
	}
	return to
}
