package depend

import (
	"slices"

	"warpbeam/api"
	"warpbeam/nest"
)

// Solvable reports whether a form can be 0 for whole values.
func Solvable(f api.Form) (bool, api.Errno) {
	if e := nest.CheckForm(f); e != api.OK {
		return false, e
	}
	return newSum(f, nil).isSolvable(), api.OK
}

// Span is the least and the greatest value of a form.
func Span(f api.Form, low, high api.Point) (int, int, api.Errno) {
	// What is wrong with the form or with a point is what a value there says.
	for _, x := range []api.Point{low, high} {
		if _, e := nest.Value(f, x); e != api.OK {
			return 0, 0, e
		}
	}
	if !slices.EqualFunc(low, high, func(a, b api.Slot) bool { return a.Name == b.Name }) {
		return 0, 0, api.ErrForm
	}
	sides := map[string]api.Side{}
	for i, x := range low {
		if x.Value > high[i].Value {
			return 0, 0, api.ErrArg
		}
		sides[x.Name] = api.Side{Name: x.Name, Low: x.Value, High: high[i].Value}
	}
	s := newSum(f, sides)
	if !s.isClosed() {
		return 0, 0, api.ErrNone
	}
	least, most := s.span()
	return least, most, api.OK
}

// Apart reports whether two statements are proved to use no cell together that one of them sets.
func Apart(p api.Program, a, b string) (bool, api.Errno) {
	if e := nest.Check(p); e != api.OK {
		return false, e
	}
	if !isName(a) || !isName(b) {
		return false, api.ErrName
	}
	x, e := newUser(p, a)
	if e != api.OK {
		return false, e
	}
	y, e := newUser(p, b)
	if e != api.OK {
		return false, e
	}
	return x.isApart(y), api.OK
}

// isName reports whether a string can be the name of a statement: the same strings can be variables.
func isName(s string) bool {
	return nest.CheckForm(api.Form{Terms: []api.Term{{Name: s, Coef: 1}}}) == api.OK
}

// user is a statement that uses cells.
type user struct {
	idle     bool                // a loop around it has no number between its sides
	sides    map[string]api.Side // of the loops around it that have both
	accesses []access
}

// access is one as it is written.
type access struct {
	sets  bool
	array string
	subs  []sum
}

func newUser(p api.Program, key string) (*user, api.Errno) {
	s, around, e := nest.Statement(p, key)
	if e != api.OK {
		return nil, e
	}
	u := &user{sides: map[string]api.Side{}}
	for _, x := range around {
		if side, closed := sideOf(x); closed {
			u.sides[x.Name] = side
			u.idle = u.idle || side.Low > side.High
		}
	}
	u.addReads(s.Expr)
	u.add(true, s.Array, s.Subs)
	return u, api.OK
}

func (u *user) addReads(x api.Expr) {
	if x.Op == api.OpRead {
		u.add(false, x.Array, x.Subs)
	}
	for _, y := range x.Args {
		u.addReads(y)
	}
}

func (u *user) add(sets bool, array string, subs []api.Form) {
	x := access{sets: sets, array: array}
	for _, f := range subs {
		x.subs = append(x.subs, newSum(f, u.sides))
	}
	u.accesses = append(u.accesses, x)
}

// sideOf is the sides of the variable of a loop; false if one is missing. A condition has none.
func sideOf(s api.Step) (api.Side, bool) {
	var low, high []int
	for _, b := range s.Low {
		if len(b.Form.Terms) == 0 {
			low = append(low, -floor(-b.Form.Const, b.Div))
		}
	}
	for _, b := range s.High {
		if len(b.Form.Terms) == 0 {
			high = append(high, floor(b.Form.Const, b.Div))
		}
	}
	if len(low) == 0 || len(high) == 0 {
		return api.Side{}, false
	}
	return api.Side{Name: s.Name, Low: slices.Max(low), High: slices.Min(high)}, true
}

// floor is a quotient, rounded down; b is above 0.
func floor(a, b int) int {
	if a%b < 0 {
		return a/b - 1
	}
	return a / b
}

// isApart reports whether all pairs of accesses are.
func (u *user) isApart(o *user) bool {
	if u.idle || o.idle {
		return true
	}
	for _, x := range u.accesses {
		for _, y := range o.accesses {
			if x.array == y.array && (x.sets || y.sets) && !x.isApart(y) {
				return false
			}
		}
	}
	return true
}

// isApart reports whether there is an index at which both accesses are never equal.
func (x access) isApart(y access) bool {
	for i, s := range x.subs {
		if s.less(y.subs[i]).isNever() {
			return true
		}
	}
	return false
}
