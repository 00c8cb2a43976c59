package depend_test

import (
	"testing"

	"warpbeam/api"
	"warpbeam/depend"
)

// P4.3: arrows between statements, and the groups that they make.
func TestGroups(t *testing.T) {
	const arrays = "array a[9]; array b[9]; array c[9]; array d[9]; "
	for _, c := range []struct{ text, arrows, groups string }{
		{"", "", ""},
		{"s: a[0] = 1;", "", "s"},
		{"for i = 1 .. 3 { s: a[i] = a[i - 1]; }", "s s", "s"},
		{"t: a[0] = 1; s: b[0] = 1;", "", "t, s"},
		{"t: a[0] = 1; s: b[0] = a[0];", "t s", "t, s"},
		// Many relations are one arrow; it leads from the earlier instance to the later one.
		{"for i = 0 .. 1 { for j = 0 .. 1 { s: a[0] = b[0]; t: b[0] = a[0]; } }", "s s, s t, t s, t t", "s t"},
		{"t: a[0] = a[0]; s: a[0] = a[0];", "t s", "t, s"},
		// Arrows are in the order of the statements From, then To.
		{"u: a[0] = 1; t: b[0] = 1; s: c[0] = b[0] + a[0]; r: d[0] = a[0];", "u s, u r, t s", "u, t, s, r"},
		// A statement that stands earlier can come later.
		{"for i = 1 .. 3 { s: a[i] = b[i - 1]; t: b[i] = 1; }", "t s", "t, s"},
		// Of those to which no arrow leads the one that stands first comes next: one that just became such comes ahead of others behind it.
		{"for i = 1 .. 3 { s: a[i] = b[i - 1]; t: b[i] = 1; u: c[i] = 1; }", "t s", "t, s, u"},
		{"for i = 1 .. 3 { s: a[i] = b[i - 1]; u: c[i] = 1; t: b[i] = 1; }", "t s", "u, t, s"},
		{"for i = 1 .. 3 { r: d[i] = a[i - 1]; s: a[i] = b[i - 1]; u: c[i] = 1; t: b[i] = 1; }", "s r, t s", "u, t, s, r"},
		{"for i = 1 .. 3 { r: d[i] = c[i - 1]; s: a[i] = b[i - 1]; t: b[i] = 1; u: c[i] = 1; }", "t s, u r", "t, s, u, r"},
		{"for i = 1 .. 3 { r: d[i] = c[i - 1] + b[i - 1]; s: a[i] = c[i - 1]; t: b[i] = 1; u: c[i] = 1; }", "t r, u r, u s", "t, u, r, s"},
		// Groups: ways from each one to the other, over others as well.
		{"for i = 1 .. 3 { s: a[i] = b[i - 1]; t: b[i] = a[i]; }", "s t, t s", "s t"},
		{"for i = 1 .. 3 { s: a[i] = c[i - 1]; t: b[i] = a[i]; u: c[i] = b[i]; }", "s t, t u, u s", "s t u"},
		{"for i = 1 .. 3 { s: a[i] = c[i - 1]; t: b[i] = a[i]; u: c[i] = a[i]; }", "s t, s u, u s", "s u, t"},
		{"for i = 1 .. 3 { s: a[i] = c[i - 1]; t: b[i] = 1; u: c[i] = a[i]; }", "s u, u s", "s u, t"},
		{"for i = 1 .. 3 { s: a[i] = c[i - 1] + b[i - 1]; t: b[i] = 1; u: c[i] = a[i]; }", "s u, t s, u s", "t, s u"},
		{"for i = 1 .. 3 { s: a[i] = b[i - 1]; t: b[i] = a[i]; u: c[i] = d[i - 1] + a[i]; v: d[i] = c[i]; }", "s t, s u, t s, u v, v u", "s t, u v"},
		{"for i = 1 .. 3 { s: a[i] = b[i - 1] + d[i - 1]; t: b[i] = a[i]; u: c[i] = d[i - 1]; v: d[i] = c[i]; }", "s t, t s, u v, v s, v u", "u v, s t"},
		{"for i = 1 .. 3 { s: a[i] = d[i - 1]; t: b[i] = c[i - 1]; u: c[i] = b[i]; v: d[i] = a[i]; }", "s v, t u, u t, v s", "s v, t u"},
		// Two pieces of a ring that is cut are no group.
		{"for i = 1 .. 3 { s: a[i] = 1; t: b[i] = a[i]; u: c[i] = b[i]; } v: d[0] = c[1];", "s t, t u, u v", "s, t, u, v"},
		// Statements without instances are groups by themselves.
		{"for i = 1 .. 0 { s: a[i] = b[i - 1]; t: b[i] = a[i]; } u: a[0] = 1;", "", "s, t, u"},
	} {
		p := program(t, arrays+c.text)
		l, e := depend.Graph(p)
		same(t, c.text, []any{arrows(l), e}, []any{c.arrows, api.OK})
		g, e := depend.Groups(p)
		same(t, c.text, []any{grouped(g), e}, []any{c.groups, api.OK})
	}
}
