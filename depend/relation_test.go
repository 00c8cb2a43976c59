package depend_test

import (
	"testing"

	"warpbeam/api"
	"warpbeam/depend"
)

// P4.2: relations sum up dependences by kind, statements, array and level.
func TestRelations(t *testing.T) {
	for _, c := range []struct{ text, want string }{
		{example, "flow s s a level 1: 2 [1] [1]"},
		// Without common loops the level is 0.
		{"array a[4]; s: a[0] = 1; t: a[1] = a[0];", "flow s t a level 0: 1 [] []"},
		{"array a[4]; for i = 0 .. 2 { s: a[i] = 1; } for i = 0 .. 3 { t: a[3] = a[i]; }", "flow s t a level 0: 3 [] [], flow t t a level 1: 1 [1] [1], output t t a level 1: 3 [1] [1]"},
		// With common loops whose values do not differ it is 0, too.
		{"array a[4]; for i = 0 .. 2 { s: a[i] = 1; t: a[3] = a[i]; }", "flow s t a level 0: 3 [0] [0], output t t a level 1: 2 [1] [1]"},
		// The outermost loop that differs counts, and differences inside can be below 0.
		{"array a[4, 4]; for i = 1 .. 3 { for j = 0 .. 2 { s: a[i, j] = a[i - 1, j + 1]; } }", "flow s s a level 1: 4 [1 -1] [1 -1]"},
		{"array a[4, 4]; for i = 0 .. 2 { for j = 1 .. 3 { s: a[i, j] = a[i, j - 1]; } }", "flow s s a level 2: 6 [0 1] [0 1]"},
		// Different levels are different relations, least and most are for each loop by itself.
		{"array a[9]; for i = 0 .. 2 { for j = 0 .. 2 { s: a[i + 2*j] = 1; } }", "output s s a level 1: 2 [2 -1] [2 -1]"},
		{"array a[3]; for i = 0 .. 1 { for j = 0 .. 2 { s: a[0] = 1; } }", "output s s a level 1: 1 [1 -2] [1 -2], output s s a level 2: 4 [0 1] [0 1]"},
		{"array a[9]; for i = 0 .. 2 { for j = 0 .. 3 { s: a[2*i + j] = 1; } }", "output s s a level 1: 4 [1 -2] [1 -2]"},
		{"array a[9]; array b[3]; for i = 0 .. 2 { s: a[0] = 1; for j = 0 .. 2 { t: b[j] = a[0]; } }", "output s s a level 1: 2 [1] [1], flow s t a level 0: 9 [0] [0], anti t s a level 1: 6 [1] [1], output t t b level 1: 6 [1 0] [1 0]"},
		// Only loops around both are common: here i, but neither j.
		{"array a[4]; array b[4]; for i = 0 .. 1 { for j = 0 .. 3 { s: a[j] = 1; } for j = 0 .. 3 { t: b[0] = a[3 - j]; } }", "output s s a level 1: 4 [1 0] [1 0], flow s t a level 0: 8 [0] [0], anti t s a level 1: 4 [1] [1], output t t b level 1: 1 [1 -3] [1 -3], output t t b level 2: 6 [0 1] [0 1]"},
		// Conditions around them are no loops.
		{"array a[4]; for i = 0 .. 1 { if i >= 0 { for j = 0 .. 1 { if j >= 0 { s: a[j] = 1; } t: a[2] = a[j]; } } }", "output s s a level 1: 2 [1 0] [1 0], flow s t a level 0: 4 [0 0] [0 0], anti t s a level 1: 2 [1 0] [1 0], output t t a level 1: 1 [1 -1] [1 -1], output t t a level 2: 2 [0 1] [0 1]"},
		// Loops that are not the same step are not common, also with one name.
		{"array a[4]; for i = 0 .. 1 { s: a[0] = 1; } for i = 5 .. 6 { t: a[0] = 1; }", "output s s a level 1: 1 [1] [1], output s t a level 0: 1 [] [], output t t a level 1: 1 [1] [1]"},
		// The differences of all dependences of a relation count, those of each loop by themselves.
		{"array a[4]; array b[4]; for i = 0 .. 3 { for j = 0 .. 1 { if -i >= 0 { s: a[j] = 1; } t: b[i] = a[1 - j]; } }", "flow s t a level 1: 6 [1 -1] [3 1], flow s t a level 2: 1 [0 1] [0 1], anti t s a level 2: 1 [0 1] [0 1], output t t b level 2: 4 [0 1] [0 1]"},
		{"array a[4]; array b[4]; for i = 0 .. 1 { for j = 0 .. 1 { s: a[2*i + j] = 1; t: b[2*i + j] = a[0] + a[2*i] + a[2*i + j]; } }", "flow s t a level 0: 4 [0 0] [0 0], flow s t a level 1: 2 [1 0] [1 1], flow s t a level 2: 2 [0 1] [0 1]"},
		// Many counts cells, too.
		{"array a[4]; array b[4]; for i = 0 .. 3 { s: a[i] = 1; } t: b[0] = a[0] + a[1] + a[3];", "flow s t a level 0: 3 [] []"},
		// By the places of From, To, then Kind, Array, Level.
		{"array b[4]; array a[4]; z: b[0] = 1; y: a[0] = 1; for i = 0 .. 1 { x: b[1] = a[0] + b[0] + b[1]; w: a[0] = a[0] + b[1]; }", "flow z x b level 0: 2 [] [], flow y x a level 0: 1 [] [], flow y w a level 0: 1 [] [], output y w a level 0: 1 [] [], flow x x b level 1: 1 [1] [1], anti x x b level 1: 1 [1] [1], output x x b level 1: 1 [1] [1], flow x w b level 0: 2 [0] [0], anti x w a level 0: 2 [0] [0], flow w x a level 1: 1 [1] [1], anti w x b level 1: 1 [1] [1], flow w w a level 1: 1 [1] [1], anti w w a level 1: 1 [1] [1], output w w a level 1: 1 [1] [1]"},
	} {
		l, e := depend.Relations(program(t, c.text))
		same(t, c.text, []any{summed(l), e}, []any{c.want, api.OK})
	}
}

// nested has five loops: 0 around 1 and 2, 3 around 4.
const nested = `
array a[4, 4]; array b[4]; array c[4];
for i = 1 .. 3 {
  if i >= 0 { for j = 0 .. 3 { s: a[i, j] = a[i - 1, j]; } }
  for j = 1 .. 3 { t: a[i, j] = a[i, j - 1] + b[j]; }
}
u: b[0] = a[3, 3];
for i = 0 .. 3 {
  for j = i .. 3 { v: c[i] = a[j, i] + b[0]; }
}
`

// P4.3: loops are numbered as they stand, and carry the relations of which they are the common loop of the level.
func TestCarried(t *testing.T) {
	p := program(t, nested)
	for n, want := range []string{
		"flow s s a level 1: 2 [1 0] [1 0], flow t s a level 1: 6 [1] [1]",
		"",
		"flow t t a level 2: 6 [0 1] [0 1]",
		"",
		"output v v c level 2: 6 [0 1] [0 1]",
	} {
		l, e := depend.Carried(p, n)
		same(t, "Carried", []any{n, summed(l), e}, []any{n, want, api.OK})
	}
	for _, n := range append(extremes(), -2, -1, 5, 6) {
		l, e := depend.Carried(p, n)
		same(t, "Carried", []any{n, summed(l), e}, []any{n, "", api.ErrNone})
	}
	l, e := depend.Carried(program(t, "array a[1]; s: a[0] = a[0];"), 0)
	same(t, "no loops", []any{summed(l), e}, []any{"", api.ErrNone})
	l, e = depend.Carried(program(t, example), 0)
	same(t, example, []any{summed(l), e}, []any{"flow s s a level 1: 2 [1] [1]", api.OK})
	l, e = depend.Carried(program(t, example), 1)
	same(t, example, []any{summed(l), e}, []any{"", api.ErrNone})
}

// P4.3: all loops that carry no relation are free, those without rounds, too.
func TestFree(t *testing.T) {
	for _, c := range []struct {
		text string
		want []int
	}{
		{nested, []int{1, 3}},
		{example, nil},
		{"array a[4]; for i = 0 .. 3 { s: a[i] = a[i]; }", []int{0}},
		{"for i = 0 .. 3 { for j = 0 .. 3 { } } for i = 0 .. 3 { }", []int{0, 1, 2}},
		{"array a[4]; for i = 1 .. 0 { s: a[0] = a[0]; for j = 0 .. 3 { } }", []int{0, 1}},
		{"array a[4]; for i = 0 .. 0 { s: a[0] = 1; t: a[0] = 1; }", []int{0}},
		{"array a[4]; for i = 0 .. 1 { if -i >= 0 { s: a[0] = 1; } }", []int{0}},
		// A loop that is inside of the one that carries is free, if the values at the same rounds around it have nothing in common.
		{"array a[4]; for i = 0 .. 1 { for j = 0 .. 3 { s: a[j] = 1; } }", []int{1}},
		{"array a[4]; for i = 0 .. 3 { for j = 0 .. 1 { s: a[i] = 1; } }", []int{0}},
		{"array a[4]; for i = 0 .. 3 { if i - 9 >= 0 { for k = 0 .. 1 { for j = 0 .. 1 { s: a[0] = 1; } } } for l = 0 .. 1 { t: a[i] = 1; } }", []int{0, 1, 2}},
	} {
		l, e := depend.Free(program(t, c.text))
		same(t, c.text, []any{l, e}, []any{c.want, api.OK})
	}
}
