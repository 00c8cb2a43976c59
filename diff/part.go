package diff

import (
	"slices"

	"warpbeam/api"
)

// scene is what an instance has at hand, and what is found out about it.
type scene struct {
	around []int // the values of the loops, from outside to inside
	read   []int // the values that are read, in order
	rates  []int // the derivative by each read
	kept   []int // the values of both Args of each product: the rate of one hangs on the other one
}

// part is an expression, or a part of it, ready to be computed in scenes.
type part struct {
	value func(s *scene) int
	// rate sets the rate of each read to n times the derivative by it, behind value.
	rate func(s *scene, n int)
}

// maker makes the parts of an expression.
type maker struct {
	loops []string // around, from outside to inside
	reads int      // so far
	kept  int      // so far
}

func (m *maker) part(x api.Expr) part {
	switch x.Op {
	case api.OpNumber:
		return constant(func(*scene) int { return x.N })
	case api.OpForm:
		return constant(m.form(x.Form))
	case api.OpRead:
		return m.read()
	}
	a := m.part(x.Args[0])
	b := m.part(x.Args[1])
	switch x.Op {
	case api.OpAdd:
		return sum(a, b, 1)
	case api.OpSub:
		return sum(a, b, api.Prime-1)
	}
	return m.product(a, b)
}

// constant is a part that hangs on no read.
func constant(value func(s *scene) int) part {
	return part{value: value, rate: func(*scene, int) {}}
}

// form is the value of a form, modulo Prime.
func (m *maker) form(f api.Form) func(s *scene) int {
	loops := each(f.Terms, func(t api.Term) int { return slices.Index(m.loops, t.Name) })
	return func(s *scene) int {
		n := f.Const
		for i, t := range f.Terms {
			n += t.Coef * s.around[loops[i]]
		}
		return modulo(n)
	}
}

func (m *maker) read() part {
	at := m.reads
	m.reads++
	return part{
		value: func(s *scene) int { return s.read[at] },
		rate:  func(s *scene, n int) { s.rates[at] = n },
	}
}

// sum is a part and factor times another one.
func sum(a, b part, factor int) part {
	return part{
		value: func(s *scene) int {
			x := a.value(s)
			return modulo(x + factor*b.value(s))
		},
		rate: func(s *scene, n int) {
			a.rate(s, n)
			b.rate(s, modulo(n*factor))
		},
	}
}

func (m *maker) product(a, b part) part {
	at := m.kept
	m.kept += 2
	return part{
		value: func(s *scene) int {
			x := a.value(s)
			y := b.value(s)
			s.kept[at], s.kept[at+1] = x, y
			return modulo(x * y)
		},
		rate: func(s *scene, n int) {
			a.rate(s, modulo(n*s.kept[at+1]))
			b.rate(s, modulo(n*s.kept[at]))
		},
	}
}
