package affine_test

import (
	"fmt"
	"strings"
	"testing"

	"warpbeam/affine"
	"warpbeam/api"
)

// around is a program with a statement s within some steps.
func around(steps string) string {
	return "array m[9]; " + steps + " s: m[0] = 1; " + strings.Repeat("} ", strings.Count(steps, "{"))
}

// P3.4: Domain.
func TestDomain(t *testing.T) {
	for _, c := range []struct{ steps, want string }{
		{"", ": "},
		{"for i = 0 .. 4 { for j = i .. 4 {", "i 0 4, j 0 4: i, -i + 4, -i + j, -j + 4"},
		{"for z = -3 .. 4 { for a = 2 - z .. z + 7 {", "z -3 4, a -2 11: z + 3, -z + 4, a + z - 2, -a + z + 7"},
		// Bounds of Low are rounded up, those of High down.
		{"for i = (5)/2 .. (9)/2 {", "i 3 4: 2*i - 5, -2*i + 9"},
		{"for i = (-5)/2 .. (-3)/2 {", "i -2 -2: 2*i + 5, -2*i - 3"},
		{"for i = (-6)/3 .. (6)/3 {", "i -2 2: 3*i + 6, -3*i + 6"},
		{"for i = 1 .. 7 { for j = (i - 4)/2 .. (3*i)/4 {", "i 1 7, j -1 5: i - 1, -i + 7, -i + 2*j + 4, 3*i - 4*j"},
		{"for i = 1 .. 7 { for j = (3 - 2*i)/5 .. (1 - i)/3 {", "i 1 7, j -2 0: i - 1, -i + 7, 2*i + 5*j - 3, -i - 3*j + 1"},
		{"for i = 0 .. 3 { for j = (i)/1000 .. (1000*i)/999 {", "i 0 3, j 0 3: i, -i + 3, -i + 1000*j, 1000*i - 999*j"},
		// The greatest of Low and the least of High.
		{"for i = max(2, (7)/3, -9) .. min(9, (17)/2, 10) {", "i 3 8: i - 2, 3*i - 7, i + 9, -i + 9, -2*i + 17, -i + 10"},
		{"for i = 1 .. 7 { for j = max(0, (i)/3) .. min(9, 20 - 2*i, (i + 5)/2) {", "i 1 7, j 1 6: i - 1, -i + 7, j, -i + 3*j, -j + 9, -2*i - j + 20, i - 2*j + 5"},
		// Conditions and loops in their order.
		{"if 3 >= 0, -2 >= 0 {", ": 3, -2"},
		{"if 1 >= 0 { for i = 0 .. 4 { if i - 2 >= 0, 3 - i >= 0 { for j = 0 .. i { if i - j >= 0 {", "i 0 4, j 0 4: 1, i, -i + 4, i - 2, -i + 3, j, i - j, i - j"},
		// The variables in bounds are anywhere within their sides.
		{"for i = 0 .. 3 { for j = i .. i { for k = i - j .. i + j {", "i 0 3, j 0 3, k -3 6: i, -i + 3, -i + j, i - j, -i + j + k, i + j - k"},
		{"for i = -2 .. 3 { for j = 0 .. 2 { for k = 2*i - 3*j .. 7 - 2*i + 3*j {", "i -2 3, j 0 2, k -10 17: i + 2, -i + 3, j, -j + 2, -2*i + 3*j + k, -2*i + 3*j - k + 7"},
		// Also if a side is empty.
		{"for i = 5 .. 0 { for j = i .. 2*i {", "i 5 0, j 0 10: i - 5, -i, -i + j, 2*i - j"},
		{"for i = 5 .. 0 { for j = -i .. -2*i { for k = j .. i {", "i 5 0, j -5 0, k -5 5: i - 5, -i, i + j, -2*i - j, -j + k, i - k"},
		{"for i = 3 .. (5)/2 {", "i 3 2: i - 3, -2*i + 5"},
		{"for i = -1000000 .. -1000000 {", "i -1000000 -1000000: i + 1000000, -i - 1000000"},
		{"for i = 1 .. 0 { for j = -1000000 .. 1000000 {", "i 1 0, j -1000000 1000000: i - 1, -i, j + 1000000, -j + 1000000"},
	} {
		d, e := affine.Domain(program(t, around(c.steps)), "s")
		same(t, c.steps, []any{shown(d), e}, []any{c.want, api.OK})
	}
}

// P3.4: each statement has its own loops.
func TestDomainOfEach(t *testing.T) {
	p := program(t, "array a[9]; r: a[0] = 1; for i = 0 .. 3 { for j = 1 .. 2 { s: a[0] = 1; } if i >= 0 { t: a[0] = 1; } for j = i .. 7 { u: a[0] = 1; } } for i = 8 .. 9 { v: a[0] = 1; }")
	for key, want := range map[string]string{
		"r": ": ",
		"s": "i 0 3, j 1 2: i, -i + 3, j - 1, -j + 2",
		"t": "i 0 3: i, -i + 3, i",
		"u": "i 0 3, j 0 7: i, -i + 3, -i + j, -j + 7",
		"v": "i 8 9: i - 8, -i + 9",
	} {
		d, e := affine.Domain(p, key)
		same(t, key, []any{shown(d), e}, []any{want, api.OK})
	}
}

// loops is so many loops in one another, v0 the outermost one, each with some bounds.
func loops(n int, bounds string) string {
	s := ""
	for i := range n {
		s += fmt.Sprint("for v", i, " = ", bounds, " { ")
	}
	return s
}

// P3.4: errors of Domain.
func TestDomainErrors(t *testing.T) {
	refuse := func(want api.Errno, p api.Program, key string) {
		t.Helper()
		d, e := affine.Domain(p, key)
		same(t, "Domain", []any{d, e}, []any{api.Set{}, want})
	}
	refuse(api.ErrKind, api.Program{Steps: []api.Step{{Kind: -1}}}, "")
	p := program(t, around("for i = 0 .. 4 {"))
	for _, name := range noNames() {
		refuse(api.ErrName, p, name)
	}
	refuse(api.ErrNone, p, "t")
	refuse(api.ErrNone, p, "i")
	refuse(api.ErrNone, p, "a")
	refuse(api.ErrNone, api.Program{}, "s")
	const full = "max(0, 0, 0, 0, 0, 0) .. min(0, 0, 0, 0, 0, 0)" // 12 conditions
	for _, c := range []struct {
		steps string
		want  api.Errno
	}{
		{"for i = 999999 .. 1000000 { for j = i .. i + 1 {", api.ErrArg},
		{"for i = 999999 .. 1000000 { for j = i + 1 .. 2*i {", api.ErrArg},
		{"for i = 999999 .. 1000000 { for j = i + 1 .. i {", api.OK},
		{"for i = 999999 .. 1000000 { for j = i + 2 .. i {", api.ErrArg},
		{"for i = 999999 .. 1000000 { for j = -i .. -i {", api.OK},
		{"for i = 999999 .. 1000000 { for j = -1 - i .. -i {", api.ErrArg},
		{"for i = 999999 .. 1000000 { for j = 0 .. -i - 2 {", api.ErrArg},
		{"for i = 999999 .. 1000000 { for j = i .. (2*i)/2 {", api.OK},
		{"for i = 1 .. 0 { for j = 1000*i + 999001 .. 7 {", api.OK},
		{"for i = 2 .. 1 { for j = 1000*i + 999001 .. 7 {", api.ErrArg},
		{"for i = 0 .. 1 { for j = max(3, 1000*i + 999999) .. min(0, -i) {", api.OK},
		{"for i = 1 .. 200000 {", api.OK},
		{"for i = 0 .. 200000 {", api.ErrFull},
		{"for i = 0 .. 447 { for j = i .. 447 {", api.ErrFull},
		{loops(8, "0 .. 0"), api.OK},
		{loops(9, "0 .. 0"), api.ErrLarge},
		{loops(11, "0 .. 0"), api.ErrLarge},
		{loops(9, "0 .. 10"), api.ErrLarge},
		// A side goes ahead of too many sides, also if it is the last one, and of too many points.
		{loops(10, "999999 .. 1000000") + "for w = v0 .. v0 {", api.ErrLarge},
		{loops(10, "999999 .. 1000000") + "for w = v0 .. v0 + 1 {", api.ErrArg},
		{"for i = 0 .. 1000000 { for j = 0 .. 2*i {", api.ErrArg},
		{loops(5, full), api.OK},
		{loops(5, full) + "if 0 >= 0 {", api.ErrLarge},
		{loops(4, full) + "if 0 >= 0 { for i = 0 .. 9 {", api.OK},
		{"for i = 0 .. 200000 { " + loops(5, full), api.ErrLarge},
	} {
		d, e := affine.Domain(program(t, around(c.steps)), "s")
		same(t, c.steps, e, c.want)
		if e != api.OK {
			same(t, c.steps, d, api.Set{})
		}
	}
}
