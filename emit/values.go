package emit

import (
	"warpbeam/api"
)

// statement sets the cell of a statement, in each of the rounds that are done at once.
func (c *coder) statement(s api.Step) {
	c.expr(s.Expr, 0)
	c.access(api.DoStore, s.Array, s.Subs, 0)
}

// expr puts the value of an expression into a vector; those before it are in use.
func (c *coder) expr(x api.Expr, to int) {
	// Each part makes an instruction, so there is no need to go through the others.
	if c.isFull() {
		return
	}
	switch x.Op {
	case api.OpNumber:
		from := c.number(short(x.N), result)
		c.put(api.Order{Do: api.DoTake, A: to, B: from})
	case api.OpForm:
		from := c.form(x.Form, result)
		by := c.number(c.slope(x.Form), step)
		c.put(api.Order{Do: api.DoCount, A: to, B: from, C: by})
	case api.OpRead:
		c.access(api.DoLoad, x.Array, x.Subs, to)
	default:
		c.expr(x.Args[0], to)
		c.expr(x.Args[1], to+1)
		c.put(api.Order{Do: operation(x.Op), A: to, B: to, C: to + 1})
	}
}

// short is a number that a constant can be, with the same value modulo Prime: the greatest values are beyond its limit.
func short(n int) int {
	if n > api.MaxConst {
		return n - api.Prime
	}
	return n
}

// operation is the instruction of an operator.
func operation(op int) int {
	switch op {
	case api.OpAdd:
		return api.DoPlus
	case api.OpSub:
		return api.DoMinus
	}
	return api.DoTimes
}

// access loads a vector from cells of an array, or stores it there.
func (c *coder) access(do int, key string, subs []api.Form, v int) {
	k := c.numbers[key]
	sizes := c.arrays[k].Sizes
	at := c.form(subs[0], result)
	distance := c.slope(subs[0])
	for i, f := range subs[1:] {
		c.put(api.Order{Do: api.DoMul, A: result, B: at, K: sizes[i+1]})
		index := c.form(f, part)
		c.put(api.Order{Do: api.DoAdd, A: result, B: result, C: index})
		at = result
		distance = distance*sizes[i+1] + c.slope(f)
	}
	// Cells that are both in an array lie nearer to each other than any limit of constants, so a distance beyond it is never used.
	by := c.number(min(max(distance, -api.MaxConst), api.MaxConst), step)
	c.put(api.Order{Do: do, A: v, B: at, C: by, K: k})
}

// slope is by how much a form rises from each value of a vector to the next one.
func (c *coder) slope(f api.Form) int {
	for _, t := range f.Terms {
		if t.Name == c.along {
			return t.Coef
		}
	}
	return 0
}
