package depend_test

import (
	"testing"

	"warpbeam/api"
	"warpbeam/depend"
)

// P4.6: statements that are apart.
func TestApart(t *testing.T) {
	const arrays = "array a[9]; array b[9]; array c[9, 9]; "
	for _, c := range []struct {
		text string
		want bool
	}{
		// Pairs are of one array, and one of both accesses sets.
		{"s: a[0] = 1; t: b[0] = 1;", true},
		{"s: a[0] = a[1]; t: b[0] = a[1];", true},
		{"s: a[0] = 1; t: a[0] = 1;", false},
		{"s: a[0] = 1; t: b[0] = a[0];", false},
		{"s: a[0] = b[0]; t: b[0] = 1;", false},
		{"s: a[0] = b[1] + b[0]; t: b[0] = b[1];", false},
		{"s: a[0] = b[1] + (b[2] * b[0] - 5); t: b[0] = 1;", false},
		{"s: a[0] = <0>; t: b[1] = 0 * (3 + (5 - a[0]));", false},
		{"s: a[0] = b[1] + (b[2] * b[3] - <5>); t: b[0] = b[1];", true},
		// Without variables the difference has just one value.
		{"s: a[0] = 1; t: a[1] = 1;", true},
		{"s: a[0] = a[1]; t: a[2] = a[1];", true},
		{"s: a[0] = a[2]; t: a[2] = a[1];", false},
		{"s: a[0] = a[2]; t: a[1] = a[0];", false},
		// One index is enough.
		{"s: c[0, 1] = 1; t: c[0, 2] = 1;", true},
		{"s: c[1, 0] = 1; t: c[2, 0] = 1;", true},
		{"s: c[1, 0] = 1; t: c[1, 0] = 1;", false},
		{"s: c[1, 2] = 1; t: c[2, 1] = 1;", true},
		{"for i = 0 .. 3 { s: c[i, 2*i] = 1; t: c[i, 2*i + 1] = 1; }", true},
		// By divisors.
		{"for i = 0 .. 3 { s: a[2*i] = 1; t: a[2*i + 1] = 1; }", true},
		{"for i = 0 .. 3 { s: a[2*i] = 1; t: a[2*i + 2] = 1; }", false},
		{"for i = 0 .. 3 { s: a[2*i] = 1; t: a[3*i + 1] = 1; }", false},
		{"for i = 0 .. 3 { s: a[4*i] = 1; for j = 0 .. 3 { t: a[6*i + 2*j + 1] = 1; } }", true},
		{"for i = 0 .. 3 { s: a[4*i] = 1; for j = 0 .. 3 { t: a[6*i + 3*j + 1] = 1; } }", false},
		{"for i = 0 .. 9 { for j = i .. i + 9 { s: a[2*j] = 1; t: a[4*j - 6*i + 3] = 1; } }", true},
		{"for i = 0 .. 9 { for j = i .. i + 9 { s: a[2*j] = 1; t: a[4*j - 6*i + 4] = 1; } }", false},
		// By the least and the greatest value.
		{"for i = 0 .. 3 { s: a[i] = 1; } for i = 4 .. 8 { t: a[i] = 1; }", true},
		{"for i = 0 .. 4 { s: a[i] = 1; } for i = 4 .. 8 { t: a[i] = 1; }", false},
		{"for i = 4 .. 8 { s: a[i] = 1; } for i = 0 .. 3 { t: a[i] = 1; }", true},
		{"for i = 4 .. 8 { s: a[i] = 1; } for i = 0 .. 4 { t: a[i] = 1; }", false},
		{"for i = 0 .. 3 { s: a[3 - i] = 1; t: a[i + 4] = 1; }", true},
		{"for i = 0 .. 3 { s: a[3 - i] = 1; t: a[i + 3] = 1; }", false},
		{"for i = 0 .. 3 { s: a[i] = 1; } t: a[4] = 1;", true},
		{"for i = 0 .. 3 { s: a[i] = 1; } t: a[3] = 1;", false},
		{"t: a[4] = 1; for i = 0 .. 3 { s: a[i] = a[5]; }", true},
		{"t: a[5] = 1; for i = 0 .. 3 { s: a[i] = a[i + 2]; }", false},
		{"for i = 0 .. 3 { s: a[3*i] = 1; } for j = 0 .. 3 { t: a[3*j - 12] = 1; }", true},
		{"for i = 0 .. 3 { s: a[3*i] = 1; } for j = 0 .. 3 { t: a[3*j - 9] = 1; }", false},
		{"for i = -5 .. -3 { s: a[-i] = 1; } for j = 0 .. 2 { t: a[j] = 1; }", true},
		{"for i = -5 .. -2 { s: a[-i] = 1; } for j = 0 .. 2 { t: a[j] = 1; }", false},
		// Values between do not count: the ways are those of the chapter alone.
		{"for i = 0 .. 1 { s: a[5*i] = 1; } t: a[2] = 1;", true},
		{"for i = 0 .. 1 { for j = 0 .. 1 { s: a[5*i + j] = 1; } } t: a[3] = 1;", false},
		// Variables with the same name are different ones.
		{"for i = 0 .. 3 { s: a[i] = 1; t: a[i + 1] = 1; }", false},
		{"for i = 0 .. 3 { s: a[i] = 1; t: b[i] = a[i + 3]; }", false},
		{"for i = 0 .. 3 { s: a[i] = 1; t: b[i] = a[i + 4]; }", true},
		// Conditions say nothing.
		{"for i = 0 .. 4 { if 3 - i >= 0 { s: a[i] = 1; } } t: a[4] = 1;", false},
		{"if -1 >= 0 { s: a[0] = 1; } t: a[0] = 1;", false},
	} {
		p := program(t, arrays+c.text)
		is, e := depend.Apart(p, "s", "t")
		same(t, c.text, []any{is, e}, []any{c.want, api.OK})
		is, e = depend.Apart(p, "t", "s")
		same(t, "turned: "+c.text, []any{is, e}, []any{c.want, api.OK})
	}
}

// P4.6: the sides of loops are those of bounds without Terms.
func TestSides(t *testing.T) {
	const arrays = "array a[9]; array b[9]; for k = 5 .. 6 { "
	for _, c := range []struct {
		text string
		want bool
	}{
		{"for i = max(1, 3, 2) .. 8 { s: a[i] = 1; } t: a[2] = 1;", true},
		{"for i = max(1, 3, 2) .. 8 { s: a[i] = 1; } t: a[3] = 1;", false},
		{"for i = 0 .. min(6, 4, 5) { s: a[i] = 1; } t: a[5] = 1;", true},
		{"for i = 0 .. min(6, 4, 5) { s: a[i] = 1; } t: a[4] = 1;", false},
		// Divided, rounded up at Low and down at High.
		{"for i = (5)/2 .. 8 { s: a[i] = 1; } t: a[2] = 1;", true},
		{"for i = (5)/2 .. 8 { s: a[i] = 1; } t: a[3] = 1;", false},
		{"for i = (4)/2 .. 8 { s: a[i] = 1; } t: a[2] = 1;", false},
		{"for i = (-5)/2 .. 8 { s: a[i + 3] = 1; } t: a[0] = 1;", true},
		{"for i = (-5)/2 .. 8 { s: a[i + 3] = 1; } t: a[1] = 1;", false},
		{"for i = 0 .. (7)/2 { s: a[i] = 1; } t: a[4] = 1;", true},
		{"for i = 0 .. (7)/2 { s: a[i] = 1; } t: a[3] = 1;", false},
		{"for i = 0 .. (8)/2 { s: a[i] = 1; } t: a[4] = 1;", false},
		{"for i = -8 .. (-5)/2 { s: a[-i] = 1; } t: a[2] = 1;", true},
		{"for i = -8 .. (-5)/2 { s: a[-i] = 1; } t: a[3] = 1;", false},
		{"for i = max((5)/2, (7)/3) .. 8 { s: a[i] = 1; } t: a[2] = 1;", true},
		{"for i = max((9)/4, 2) .. min((15)/4, 4) { s: a[i] = 1; } t: a[3] = 1;", false},
		{"for i = max((9)/4, 2) .. min((15)/4, 4) { s: a[i] = 1; } t: a[4] = a[2];", true},
		// Bounds with Terms are no sides.
		{"for i = max(1, k) .. 8 { s: a[i] = 1; } t: a[4] = 1;", false},
		{"for i = max(1, k) .. 8 { s: a[i] = 1; } t: a[0] = 1;", true},
		{"for i = max(k, 1) .. min(k, 8) { s: a[i] = 1; } t: a[0] = 1;", true},
		{"for i = 1 .. min(k - 5, 3) { s: a[i] = 1; } t: a[2] = 1;", false},
		{"for i = 1 .. min(k - 5, 3) { s: a[i] = 1; } t: a[4] = 1;", true},
		// A side can be missing: then values say nothing, but divisors do.
		{"for i = k .. 8 { s: a[i] = 1; } t: a[0] = 1;", false},
		{"for i = 1 .. k { s: a[i] = 1; } t: a[0] = 1;", false},
		{"for i = k .. k { s: a[i] = 1; } t: a[0] = 1;", false},
		{"for i = 0 .. k { s: a[2*i] = 1; } t: a[1] = 1;", true},
		{"for i = 0 .. k { for j = 0 .. 1 { s: a[i + j] = 1; } } t: a[8] = 1;", false},
		// Only those of the difference's variables have to be there.
		{"for i = 0 .. k { for j = 0 .. 1 { s: a[j] = 1; } } t: a[8] = 1;", true},
		{"for i = 0 .. k { for j = 0 .. 1 { s: a[j] = 1; t: a[8 - i] = 1; } }", false},
		{"for i = 0 .. k { for j = 0 .. 1 { s: a[j] = 1; t: a[8 - j] = 1; } }", true},
		// A loop without a number between its sides.
		{"for i = 5 .. 4 { s: a[0] = a[0]; } t: a[0] = a[0];", true},
		{"s: a[0] = a[0]; for i = 5 .. 4 { t: a[0] = a[0]; }", true},
		{"for i = 5 .. 5 { s: a[0] = a[0]; } t: a[0] = a[0];", false},
		{"for i = 5 .. 4 { for j = k .. k { s: a[j] = a[0]; } } t: a[0] = a[0];", true},
		{"for j = k .. k { for i = 5 .. 4 { s: a[j] = a[0]; } } t: a[0] = a[0];", true},
		{"for i = max(k, 5) .. min(k, 4) { s: a[0] = a[0]; } t: a[0] = a[0];", true},
		{"for i = max(k, 5) .. min(k - 9, 6) { s: a[0] = a[0]; } t: a[0] = a[0];", false},
		{"for i = 5 .. k - 9 { s: a[0] = a[0]; } t: a[0] = a[0];", false},
		{"for i = k .. -9 { s: a[0] = a[0]; } t: a[0] = a[0];", false},
		{"for i = (9)/2 .. (9)/2 { s: a[0] = a[0]; } t: a[0] = a[0];", true},
		{"for i = 5 .. 4 { } s: a[0] = a[0]; t: a[0] = a[0];", false},
		{"if -1 >= 0 { for i = 1 .. 5 { s: a[0] = 1; } } t: a[0] = 1;", false},
		{"for i = 0 .. 4 { for j = 5 .. 6 { s: a[j] = 1; } for j = 1 .. 2 { t: a[j] = 1; } }", true},
		{"for i = 0 .. 4 { for j = 5 .. i + 5 { s: a[j] = 1; } for j = 1 .. 2 { t: a[j] = 1; } }", false},
	} {
		p := program(t, arrays+c.text+" }")
		is, e := depend.Apart(p, "s", "t")
		same(t, c.text, []any{is, e}, []any{c.want, api.OK})
		is, e = depend.Apart(p, "t", "s")
		same(t, "turned: "+c.text, []any{is, e}, []any{c.want, api.OK})
	}
}

// P4.6: a statement and itself.
func TestApartFromItself(t *testing.T) {
	const arrays = "array a[9]; array b[9]; "
	for _, c := range []struct {
		text string
		want bool
	}{
		{"s: a[0] = 1;", false},
		{"s: a[0] = a[1];", false},
		{"for i = 0 .. 3 { s: a[i] = 1; }", false},
		{"for i = 5 .. 3 { s: a[i] = a[i - 1]; }", true},
		{"for i = 3 .. 3 { s: a[i] = b[i - 1]; }", false},
		{"for i = 0 .. 3 { for j = 2 .. 1 { s: a[i] = a[j]; } }", true},
		{"for i = 0 .. 3 { for j = i .. 1 - i { s: a[i] = b[j]; } }", false},
	} {
		is, e := depend.Apart(program(t, arrays+c.text), "s", "s")
		same(t, c.text, []any{is, e}, []any{c.want, api.OK})
	}
}

// P4.6: the program need not have a run, and differences can be beyond the limits of forms.
func TestApartWithoutRun(t *testing.T) {
	for _, c := range []struct {
		text string
		want bool
	}{
		{"s: a[20] = 1; t: a[20] = 1;", false},
		{"s: a[20] = 1; t: a[-20] = 1;", true},
		{"for i = 0 .. 1000000 { s: a[i] = 1; t: a[i + 1000000] = 1; }", false},
		{"for i = 0 .. 999999 { s: a[i] = 1; t: a[i + 1000000] = 1; }", true},
		{"s: a[1000000] = 1; t: a[-1000000] = 1;", true},
		{"for i = -1000000 .. 1000000 { s: a[1000*i + 1000000] = 1; t: a[-1000*i - 1000000] = 1; }", false},
		{"for i = -1000000 .. 1000000 { s: a[1000*i + 1000000] = 1; t: a[-1000*i - 999999] = 1; }", true},
		{"for i = -1000000 .. -1000 { s: a[1000*i + 1000000] = 1; t: a[-1000*i - 1000000] = 1; }", false},
		{"for i = -1000000 .. -1001 { s: a[1000*i + 1000000] = 1; t: a[-1000*i - 1000000] = 1; }", true},
		{"for i = -1000000 .. 1000000 { for j = i .. i { s: a[1000*i + 1000000 + j] = 1; t: a[-1000*i - 1000000] = 1; } }", false},
	} {
		p := program(t, "array a[9]; "+c.text)
		is, e := depend.Apart(p, "s", "t")
		same(t, c.text, []any{is, e}, []any{c.want, api.OK})
	}
}

// P4.6: the errors.
func TestErrorsOfApart(t *testing.T) {
	p := program(t, "array a[9]; for i = 0 .. 3 { s: a[0] = 1; t: a[1] = 1; }")
	for _, c := range []struct {
		a, b string
		want api.Errno
	}{
		{"s", "t", api.OK},
		{"u", "t", api.ErrNone},
		{"s", "u", api.ErrNone},
		{"u", "v", api.ErrNone},
		{"a", "s", api.ErrNone},
		{"s", "i", api.ErrNone},
		{"u", "A", api.ErrName},
		{"A", "u", api.ErrName},
	} {
		is, e := depend.Apart(p, c.a, c.b)
		same(t, c.a+" "+c.b, []any{is, e}, []any{c.want == api.OK, c.want})
	}
	for _, name := range noNames() {
		_, e := depend.Apart(p, name, "s")
		same(t, name, e, api.ErrName)
		_, e = depend.Apart(p, "s", name)
		same(t, name, e, api.ErrName)
		_, e = depend.Apart(p, "u", name)
		same(t, name, e, api.ErrName)
	}
	for _, f := range failures(t)[:3] {
		is, e := depend.Apart(f.program, "A", "B")
		same(t, "Apart", []any{is, e}, []any{false, f.want})
	}
	// What is wrong just in the run is no error here.
	for _, f := range failures(t)[3:] {
		_, e := depend.Apart(f.program, "u", "u")
		same(t, "Apart", e, api.ErrNone)
	}
}
