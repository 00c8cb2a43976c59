package depend_test

import (
	"testing"

	"warpbeam/api"
	"warpbeam/depend"
)

// P4.1: what depends directly on what.
func TestDirect(t *testing.T) {
	for _, c := range []struct{ text, want string }{
		{example, "flow 0 1 a1, flow 1 2 a2"},
		// One of both sets.
		{"array a[4]; s: a[0] = 1; t: a[1] = 1;", ""},
		{"array a[4]; s: a[0] = a[2]; t: a[1] = a[2];", ""},
		{"array a[4]; array b[4]; s: a[0] = b[1]; t: b[0] = a[1];", ""},
		{"array a[4]; s: a[0] = 1; t: a[1] = a[0];", "flow 0 1 a0"},
		{"array a[4]; s: a[0] = a[1]; t: a[1] = 1;", "anti 0 1 a1"},
		{"array a[4]; s: a[0] = 1; t: a[0] = 2;", "output 0 1 a0"},
		// An instance does not depend on itself.
		{"array a[4]; s: a[0] = a[0] + a[0];", ""},
		// It reads before it sets.
		{"array a[4]; s: a[0] = 1; t: a[0] = a[0];", "flow 0 1 a0, output 0 1 a0"},
		{"array a[4]; s: a[0] = a[0]; t: a[0] = 1;", "anti 0 1 a0, output 0 1 a0"},
		{"array a[4]; s: a[0] = a[0]; t: a[0] = a[0];", "flow 0 1 a0, anti 0 1 a0, output 0 1 a0"},
		// Nobody between sets it.
		{"array a[4]; s: a[0] = 1; t: a[0] = 2; u: a[1] = a[0];", "output 0 1 a0, flow 1 2 a0"},
		{"array a[4]; s: a[0] = 1; t: a[0] = 2; u: a[0] = 3;", "output 0 1 a0, output 1 2 a0"},
		{"array a[4]; s: a[1] = a[0]; t: a[0] = 2; u: a[0] = 3;", "anti 0 1 a0, output 1 2 a0"},
		{"array a[4]; s: a[0] = a[0]; t: a[0] = 2; u: a[0] = 3;", "anti 0 1 a0, output 0 1 a0, output 1 2 a0"},
		{"array a[4]; s: a[0] = 1; t: a[0] = a[0]; u: a[1] = a[0];", "flow 0 1 a0, output 0 1 a0, flow 1 2 a0"},
		// Those between can read it.
		{"array a[4]; s: a[0] = 1; t: a[1] = a[0]; u: a[2] = a[0]; v: a[0] = 2;", "flow 0 1 a0, flow 0 2 a0, output 0 3 a0, anti 1 3 a0, anti 2 3 a0"},
		{"array a[4]; s: a[0] = a[0]; t: a[1] = a[0]; v: a[0] = 2; w: a[0] = 3;", "flow 0 1 a0, anti 0 2 a0, output 0 2 a0, anti 1 2 a0, output 2 3 a0"},
		// Each once, also if the cell is read twice, or by different forms.
		{"array a[4]; s: a[0] = 1; t: a[1] = a[0] * a[0] - a[0];", "flow 0 1 a0"},
		{"array a[4]; s: a[1] = a[0] * (a[2] + a[0]); t: a[0] = 1;", "anti 0 1 a0"},
		{"array a[4]; for i = 1 .. 2 { s: a[2] = a[i] + a[3 - i] * a[i]; }", "flow 0 1 a2, anti 0 1 a2, output 0 1 a2"},
		{"array a[4]; s: a[1] = a[0] + a[3] + a[0]; t: a[0] = a[1] + a[0] + a[1]; u: a[0] = 1;", "flow 0 1 a1, anti 0 1 a0, anti 1 2 a0, output 1 2 a0"},
		// Cells of different arrays, and cells of arrays with several indices.
		{"array a[4]; array b[2, 3]; s: b[1, 2] = a[3]; t: a[3] = b[1, 2] + b[0, 2] + b[1, 1]; u: b[0, 2] = 1;", "flow 0 1 b5, anti 0 1 a3, anti 1 2 b2"},
		// By To, From, then Kind.
		{"array a[4]; s: a[0] = a[1]; t: a[1] = a[0]; u: a[2] = a[1]; v: a[0] = a[0] + a[1] + a[2];", "flow 0 1 a0, anti 0 1 a1, flow 1 2 a1, flow 0 3 a0, output 0 3 a0, flow 1 3 a1, anti 1 3 a0, flow 2 3 a2"},
		// Values that come from the beginning have no source.
		{"array a[4]; for i = 0 .. 2 { s: a[i] = a[i + 1]; }", "anti 0 1 a1, anti 1 2 a2"},
		{"array a[2]; for i = 0 .. 2 { s: a[0] = a[1]; }", "output 0 1 a0, output 1 2 a0"},
		{"array a[2]; for i = 0 .. 1 { if i - 1 >= 0 { s: a[0] = 1; } t: a[1] = a[0]; }", "anti 0 1 a0, output 0 2 a1, flow 1 2 a0"},
	} {
		l, e := depend.Direct(program(t, c.text))
		same(t, c.text, []any{leads(l), e}, []any{c.want, api.OK})
	}
}
