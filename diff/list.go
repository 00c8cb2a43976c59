package diff

import (
	"slices"

	"warpbeam/api"
)

// first is the error of the first element that has one.
func first[T any](l []T, check func(T) api.Errno) api.Errno {
	for _, x := range l {
		if e := check(x); e != api.OK {
			return e
		}
	}
	return api.OK
}

// each is a new list of what is made of each element.
func each[A, B any](l []A, change func(A) B) []B {
	var out []B
	for _, x := range l {
		out = append(out, change(x))
	}
	return out
}

// reformed is an expression in new memory, in which all forms are changed; change has to make new ones.
func reformed(x api.Expr, change func(api.Form) api.Form) api.Expr {
	x.Form = change(x.Form)
	x.Subs = each(x.Subs, change)
	x.Args = each(x.Args, func(y api.Expr) api.Expr { return reformed(y, change) })
	return x
}

// copyOf is a form in new memory.
func copyOf(f api.Form) api.Form {
	f.Terms = slices.Clone(f.Terms)
	return f
}
