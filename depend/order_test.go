package depend_test

import (
	"slices"
	"testing"

	"warpbeam/api"
	"warpbeam/depend"
)

// P4.4: orders that do each instance after those on which it depends.
func TestKeeps(t *testing.T) {
	for _, c := range []struct {
		text  string
		order []int
		want  bool
	}{
		{example, []int{0, 1, 2}, true},
		{example, []int{0, 2, 1}, false},
		{example, []int{1, 0, 2}, false},
		{example, []int{2, 1, 0}, false},
		{"", nil, true},
		{"array a[1]; s: a[0] = a[0];", []int{0}, true},
		{"array a[4]; for i = 0 .. 3 { s: a[i] = a[i]; }", []int{2, 0, 3, 1}, true},
		// A number is that of an instance, at its place in the order, and not the place of the instance.
		{"array a[4]; s: a[0] = 1; t: a[1] = 1; u: a[2] = a[0]; v: a[3] = a[1];", []int{1, 3, 0, 2}, true},
		{"array a[4]; s: a[0] = 1; t: a[1] = 1; u: a[2] = a[0]; v: a[3] = a[1];", []int{2, 0, 3, 1}, false},
		{"array a[4]; s: a[0] = 1; t: a[1] = 1; u: a[2] = 1; v: a[3] = a[0];", []int{1, 2, 0, 3}, true},
		{"array a[4]; s: a[0] = 1; t: a[1] = 1; u: a[2] = 1; v: a[3] = a[0];", []int{3, 1, 2, 0}, false},
		// All kinds of dependences count.
		{"array a[4]; s: a[0] = 1; t: a[1] = a[0];", []int{1, 0}, false},
		{"array a[4]; s: a[0] = a[1]; t: a[1] = 1;", []int{1, 0}, false},
		{"array a[4]; s: a[0] = 1; t: a[0] = 1;", []int{1, 0}, false},
		{"array a[4]; s: a[0] = a[2]; t: a[1] = a[2];", []int{1, 0}, true},
	} {
		is, e := depend.Keeps(program(t, c.text), c.order)
		same(t, c.text, []any{c.order, is, e}, []any{c.order, c.want, api.OK})
	}
}

// P4.4: the errors of an order are asked for number by number.
func TestErrorsOfOrders(t *testing.T) {
	p := program(t, example)
	type row struct {
		order []int
		want  api.Errno
	}
	rows := []row{
		{nil, api.ErrForm},
		{[]int{0, 1}, api.ErrForm},
		{[]int{0, 1, 2, 3}, api.ErrForm},
		{[]int{9, 9}, api.ErrForm},
		{[]int{0, 1, 3}, api.ErrNone},
		{[]int{0, -1, 2}, api.ErrNone},
		{[]int{0, 1, 1}, api.ErrTwice},
		{[]int{2, 0, 2}, api.ErrTwice},
		{[]int{3, 1, 1}, api.ErrNone},
		{[]int{1, 1, 3}, api.ErrTwice},
		{[]int{2, 1, 1}, api.ErrTwice},
	}
	for _, n := range extremes() {
		rows = append(rows, row{[]int{0, 1, n}, api.ErrNone})
	}
	for _, c := range rows {
		is, e := depend.Keeps(p, c.order)
		same(t, "Keeps", []any{c.order, is, e}, []any{c.order, false, c.want})
	}
	is, e := depend.Keeps(api.Program{}, []int{0})
	same(t, "empty", []any{is, e}, []any{false, api.ErrForm})
}

// P4.4: an instance is in the wave after the last one of those on which it depends.
func TestWaves(t *testing.T) {
	for _, c := range []struct {
		text  string
		waves []int
		many  int
	}{
		{example, []int{0, 1, 2}, 3},
		{"", nil, 0},
		{"for i = 0 .. 3 { }", nil, 0},
		{"array a[1]; s: a[0] = a[0];", []int{0}, 1},
		{"array a[4]; for i = 0 .. 3 { s: a[i] = a[i]; }", []int{0, 0, 0, 0}, 1},
		{"array a[4]; s: a[0] = 1; t: a[1] = 1; u: a[2] = a[0] + a[1]; v: a[3] = 1;", []int{0, 0, 1, 0}, 2},
		// The greatest one of several counts, whatever comes last.
		{"array a[5]; s: a[0] = 1; t: a[1] = a[0]; u: a[2] = a[1]; v: a[3] = 1; w: a[4] = a[2] + a[3];", []int{0, 1, 2, 0, 3}, 4},
		{"array a[5]; s: a[0] = 1; t: a[1] = a[0]; u: a[2] = a[1]; v: a[3] = a[0]; w: a[4] = a[3];", []int{0, 1, 2, 1, 2}, 3},
		// All kinds count.
		{"array a[4]; s: a[0] = a[1]; t: a[1] = 1; u: a[0] = 1;", []int{0, 1, 1}, 2},
		{"array a[3, 3]; for i = 1 .. 2 { for j = 1 .. 2 { s: a[i, j] = a[i - 1, j] + a[i, j - 1]; } }", []int{0, 1, 1, 2}, 3},
	} {
		w, n, e := depend.Waves(program(t, c.text))
		same(t, c.text, []any{w, n, e}, []any{c.waves, c.many, api.OK})
	}
}

// An order of any number of instances, and chains as long as a run can be.
func TestLongOrders(t *testing.T) {
	p := program(t, "array a[1]; for i = 1 .. 50000 { s: a[0] = a[0] + a[0] * a[0]; }")
	w, n, e := depend.Waves(p)
	same(t, "waves", []any{n, w[0], w[1], w[49_999], e}, []any{50_000, 0, 1, 49_999, api.OK})
	l, e := depend.Direct(p)
	same(t, "Direct", []any{len(l), e}, []any{3 * 49_999, api.OK})
	r, e := depend.Relations(p)
	same(t, "Relations", []any{summed(r), e}, []any{"flow s s a level 1: 49999 [1] [1], anti s s a level 1: 49999 [1] [1], output s s a level 1: 49999 [1] [1]", api.OK})
	is, e := depend.Keeps(p, w)
	same(t, "Keeps", []any{is, e}, []any{true, api.OK})
	slices.Reverse(w)
	is, e = depend.Keeps(p, w)
	same(t, "Keeps", []any{is, e}, []any{false, api.OK})
}
