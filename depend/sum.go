package depend

import (
	"slices"

	"warpbeam/api"
)

// sum is a number and parts, each of which has a variable of its own.
type sum struct {
	number int
	parts  []part
}

// part is coef times a variable; if it is closed, the variable has both sides.
type part struct {
	coef      int
	closed    bool
	low, high int
}

// newSum is a form with the sides of its variables, as far as they have both.
func newSum(f api.Form, sides map[string]api.Side) sum {
	s := sum{number: f.Const}
	for _, t := range f.Terms {
		side, closed := sides[t.Name]
		s.parts = append(s.parts, part{coef: t.Coef, closed: closed, low: side.Low, high: side.High})
	}
	return s
}

// less is the sum less another one, whose variables are different ones, also if they have the same names.
func (s sum) less(o sum) sum {
	d := sum{number: s.number - o.number, parts: slices.Clone(s.parts)}
	for _, x := range o.parts {
		x.coef = -x.coef
		d.parts = append(d.parts, x)
	}
	return d
}

// isNever reports whether the sum is proved not to be 0.
func (s sum) isNever() bool {
	if !s.isSolvable() {
		return true
	}
	if !s.isClosed() {
		return false
	}
	least, most := s.span()
	return least > 0 || most < 0
}

// isSolvable reports whether the sum can be 0 for some whole values of its variables.
func (s sum) isSolvable() bool {
	divisor := 0
	for _, x := range s.parts {
		divisor = commonDivisor(divisor, x.coef)
	}
	if divisor == 0 {
		return s.number == 0
	}
	return s.number%divisor == 0
}

// commonDivisor is the greatest common divisor of two numbers, up to its sign.
func commonDivisor(a, b int) int {
	for b != 0 {
		a, b = b, a%b
	}
	return a
}

// isClosed reports whether all variables have both sides.
func (s sum) isClosed() bool {
	return !slices.ContainsFunc(s.parts, func(x part) bool { return !x.closed })
}

// span is the least and the greatest value of a sum that is closed.
func (s sum) span() (int, int) {
	least, most := s.number, s.number
	for _, x := range s.parts {
		a, b := x.coef*x.low, x.coef*x.high
		least += min(a, b)
		most += max(a, b)
	}
	return least, most
}
