package affine

import (
	"slices"
	"strings"

	"warpbeam/api"
)

// row is a form with a coefficient for each side, also for those whose variable it has not. Its numbers can be beyond the limits of a form.
type row struct {
	number int
	coefs  []int
}

// rowOf is a form as a row; its variables have to be among those of sides.
func rowOf(f api.Form, sides []api.Side) row {
	r := row{number: f.Const, coefs: make([]int, len(sides))}
	for _, t := range f.Terms {
		r.coefs[placeOf(t.Name, sides)] = t.Coef
	}
	return r
}

// form is a row as a form.
func (r row) form(sides []api.Side) api.Form {
	f := api.Form{Const: r.number}
	for i, coef := range r.coefs {
		if coef != 0 {
			f.Terms = append(f.Terms, api.Term{Name: sides[i].Name, Coef: coef})
		}
	}
	slices.SortFunc(f.Terms, func(a, b api.Term) int { return strings.Compare(a.Name, b.Name) })
	return f
}

// value is the value of a row at some values of its first variables, if the others are 0.
func (r row) value(x []int) int {
	n := r.number
	for i, at := range x {
		n += r.coefs[i] * at
	}
	return n
}

// length is how many of the first variables a row hangs on.
func (r row) length() int {
	n := len(r.coefs)
	for n > 0 && r.coefs[n-1] == 0 {
		n--
	}
	return n
}

// sum is a times a row and b times another one.
func sum(r row, a int, q row, b int) row {
	s := row{number: a*r.number + b*q.number, coefs: make([]int, len(r.coefs))}
	for i := range s.coefs {
		s.coefs[i] = a*r.coefs[i] + b*q.coefs[i]
	}
	return s
}

// without is a row that has lost a variable.
func (r row) without(at int) row {
	return row{number: r.number, coefs: slices.Concat(r.coefs[:at], r.coefs[at+1:])}
}

// divided is the condition with the least coefficients that has the same points: as its terms are a multiple of the divisor, the number need not be one.
func (r row) divided() row {
	divisor := 0
	for _, coef := range r.coefs {
		divisor = common(divisor, coef)
	}
	if divisor == 0 {
		return r
	}
	d := row{number: floor(r.number, divisor), coefs: make([]int, len(r.coefs))}
	for i, coef := range r.coefs {
		d.coefs[i] = coef / divisor
	}
	return d
}

// common is the greatest common divisor of two numbers, which is not below 0; 0 divides by all.
func common(a, b int) int {
	for b != 0 {
		a, b = b, a%b
	}
	return max(a, -a)
}

// floor is a quotient, rounded down; b is above 0.
func floor(a, b int) int {
	if a%b < 0 {
		return a/b - 1
	}
	return a / b
}
