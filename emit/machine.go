package emit

import (
	"warpbeam/api"
)

// maxNumber is the greatest number of a register; the least one is as far below 0.
const maxNumber = 1_000_000_000_000_000

// machine has registers for numbers and for vectors, and the cells of all arrays.
type machine struct {
	numbers [api.MaxRegs]int
	vectors [api.MaxVecs][api.MaxWide]int // what is behind the values of a vector is 0
	wide    int                           // how many values vectors have now
	cells   [][]int                       // of each array, in the order of the program
}

// newMachine is a machine that works on the values of grids.
func newMachine(arrays []api.Array, grids []api.Grid) *machine {
	values := map[string][]int{}
	for _, g := range grids {
		values[g.Key] = g.Values
	}
	m := &machine{wide: 1}
	for _, a := range arrays {
		m.cells = append(m.cells, values[a.Key])
	}
	return m
}

// run runs checked code, and returns how many instructions were done.
func (m *machine) run(c []api.Order, fuel int) (int, api.Errno) {
	at := 0
	for done := 0; ; done++ {
		if at == len(c) {
			return 0, api.ErrState
		}
		if done == fuel {
			return 0, api.ErrFull
		}
		o := c[at]
		if o.Do == api.DoHalt {
			return done + 1, api.OK
		}
		if e := m.do(o); e != api.OK {
			return 0, e
		}
		at++
		if m.jumps(o) {
			at = o.K
		}
	}
}

// jumps reports whether the next instruction is that with the number K.
func (m *machine) jumps(o api.Order) bool {
	return o.Do == api.DoJump || o.Do == api.DoLess && m.numbers[o.A] < m.numbers[o.B]
}

// do does an instruction that is neither a jump nor the end.
func (m *machine) do(o api.Order) api.Errno {
	switch o.Do {
	case api.DoSet, api.DoAdd, api.DoSub, api.DoMul, api.DoDiv:
		return m.compute(o)
	case api.DoLoad, api.DoStore:
		return m.move(o)
	case api.DoTake, api.DoCount, api.DoPlus, api.DoMinus, api.DoTimes:
		m.combine(o)
	case api.DoWide:
		m.wide = o.K
	}
	return api.OK
}

// compute puts a number into a register.
func (m *machine) compute(o api.Order) api.Errno {
	n := o.K
	switch o.Do {
	case api.DoAdd:
		n = m.numbers[o.B] + m.numbers[o.C]
	case api.DoSub:
		n = m.numbers[o.B] - m.numbers[o.C]
	case api.DoMul:
		n = product(m.numbers[o.B], o.K)
	case api.DoDiv:
		n = floor(m.numbers[o.B], o.K)
	}
	if n < -maxNumber || n > maxNumber {
		return api.ErrArg
	}
	m.numbers[o.A] = n
	return api.OK
}

// product is that of two numbers, or any number beyond maxNumber if it is beyond it: the true one could be too great for an int.
func product(a, b int) int {
	if b != 0 && size(a) > maxNumber/size(b) {
		return maxNumber + 1
	}
	return a * b
}

// move loads cells into a vector, or stores a vector into cells.
func (m *machine) move(o api.Order) api.Errno {
	cells, v := m.cells[o.K], &m.vectors[o.A]
	if o.Do == api.DoLoad {
		clear(v[:])
	}
	for i := range m.wide {
		at := m.numbers[o.B] + i*m.numbers[o.C]
		if at < 0 || at >= len(cells) {
			return api.ErrRule
		}
		if o.Do == api.DoLoad {
			v[i] = cells[at]
		} else {
			cells[at] = v[i]
		}
	}
	return api.OK
}

// combine makes a vector of numbers or of other vectors.
func (m *machine) combine(o api.Order) {
	// Both are copied, as the vector that is made can be one of them.
	var b, c [api.MaxWide]int
	if kinds[o.Do].uses[1] == vector {
		b, c = m.vectors[o.B], m.vectors[o.C]
	}
	v := [api.MaxWide]int{}
	for i := range m.wide {
		switch o.Do {
		case api.DoTake:
			v[i] = modulo(m.numbers[o.B])
		case api.DoCount:
			v[i] = modulo(m.numbers[o.B] + i*m.numbers[o.C])
		case api.DoPlus:
			v[i] = modulo(b[i] + c[i])
		case api.DoMinus:
			v[i] = modulo(b[i] - c[i])
		case api.DoTimes:
			v[i] = modulo(b[i] * c[i])
		}
	}
	m.vectors[o.A] = v
}

// size is a number without its sign.
func size(n int) int { return max(n, -n) }

// floor is a quotient, rounded down; b is above 0.
func floor(a, b int) int {
	if a%b < 0 {
		return a/b - 1
	}
	return a / b
}

// modulo is a number as a value of a cell.
func modulo(n int) int { return n - floor(n, api.Prime)*api.Prime }
