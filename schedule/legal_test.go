package schedule_test

import (
	"fmt"
	"testing"

	"warpbeam/api"
	"warpbeam/schedule"
)

// P5.2: all functions that need instances have the errors of a run, and of too many pairs, behind those of the schedule.
func TestErrorsOfRuns(t *testing.T) {
	for _, f := range failures() {
		p := program(t, f.text)
		l := constant(p)
		same(t, f.text, results(p, l), nothing(f.want))
		if len(l) == 0 {
			continue
		}
		same(t, f.text, results(p, l[1:])[:4], nothing(api.ErrForm)[:4])
		b, n, is, e := schedule.Search(p, 1)
		same(t, f.text, []any{b, n, is, e}, []any{[]int{}, 0, false, f.want})
	}
}

// P5.2: as many pairs as there can be.
func TestManyPairs(t *testing.T) {
	p := program(t, crowded(0))
	l, _ := schedule.Original(p)
	_, is, e := schedule.Legal(p, l)
	same(t, "Legal", []any{is, e}, []any{true, api.OK})
	n, most, e := schedule.Latency(p, l)
	same(t, "Latency", []any{n, most, e}, []any{1_501, 1, api.OK})
	_, n, e = schedule.Earliest(p)
	same(t, "Earliest", []any{n, e}, []any{1_000, api.OK})
	// Reads alone make no pairs, and pairs by two cells count twice.
	for _, c := range []struct {
		text string
		want api.Errno
	}{
		{"array a[1]; array b[9999]; for i = 0 .. 9998 { s: b[i] = a[0] + a[0]; }", api.OK},
		{"array a[1]; array b[9999]; for i = 0 .. 49999 { if 9998 - i >= 0 { s: b[i] = a[0]; } }", api.OK},
		{"array a[2]; for i = 0 .. 707 { s: a[0] = a[1]; if i - 1 >= 0 { t: a[1] = 1; } }", api.ErrFull},
		{"array a[2]; for i = 0 .. 706 { s: a[0] = 1; t: a[1] = 1; }", api.OK},
		{"array a[2]; for i = 0 .. 706 { s: a[0] = 1; t: a[1] = 1; } for i = 0 .. 707 { u: a[1] = 1; }", api.ErrFull},
		{"array a[2]; array b[708]; for i = 0 .. 705 { s: a[0] = 1; t: a[1] = 1; } u: b[0] = a[0] + a[1];", api.OK},
		{"array a[2]; array b[708]; for i = 0 .. 706 { s: a[0] = 1; t: a[1] = 1; } u: b[0] = a[0];", api.OK},
		{"array a[2]; array b[708]; for i = 0 .. 706 { s: a[0] = 1; t: a[1] = 1; } u: b[0] = a[0] + a[1];", api.ErrFull},
	} {
		p := program(t, c.text)
		_, e := schedule.Order(p, constant(p))
		same(t, c.text, e, c.want)
	}
}

// P5.2: which schedules are legal, and the first pair that another one turns.
func TestLegal(t *testing.T) {
	const arrays = "array b[9]; array c[9]; array a[9]; "
	for _, c := range []struct{ text, plans, want string }{
		{example, "s: i + j", ""},
		{example, "s: j, i", ""},
		{example, "s: i, j", ""},
		{example, "s: 2*i + 3*j - 100", ""},
		{example, "s: 0, i, 0, j, 0", ""},
		{example, "s: 5, i + j, j", ""},
		{example, "s: i", "s[1 1] s[1 2] a5"},
		{example, "s: j", "s[1 1] s[2 1] a5"},
		{example, "s: 0", "s[1 1] s[1 2] a5"},
		{example, "s: -i, j", "s[1 1] s[2 1] a5"},
		{example, "s: i, -j", "s[1 1] s[1 2] a5"},
		{example, "s: i - j, i", "s[1 1] s[1 2] a5"},
		{"", "", ""},
		{"array a[9]; s: a[0] = a[0];", "s: 0", ""},
		{"array a[9]; s: a[0] = 1; t: a[1] = a[2];", "s: 1; t: 0", ""},
		// All three kinds of dependences, and none.
		{"array a[9]; s: a[0] = 1; t: a[1] = a[0];", "s: 0; t: 0", "s[] t[] a0"},
		{"array a[9]; s: a[0] = a[1]; t: a[1] = 1;", "s: 0; t: 0", "s[] t[] a1"},
		{"array a[9]; s: a[1] = 1; t: a[1] = 1;", "s: 1; t: 0", "s[] t[] a1"},
		{"array a[9]; s: a[1] = a[0]; t: a[2] = a[0];", "s: 1; t: 0", ""},
		{"array a[9]; s: a[1] = 1; t: a[1] = 1;", "s: -1; t: 0", ""},
		// Times are compared number by number.
		{"array a[9]; s: a[1] = 1; t: a[1] = 1;", "s: 0, 9, 1; t: 0, 9, 0", "s[] t[] a1"},
		{"array a[9]; s: a[1] = 1; t: a[1] = 1;", "s: 0, 9, 1; t: 0, 10, 0", ""},
		{"array a[9]; s: a[1] = 1; t: a[1] = 1;", "s: 0, 9, 1; t: 0, 9, 1", "s[] t[] a1"},
		// Not just those that follow each other: between the two, one is done by which they are no direct pair.
		{"array a[9]; s: a[0] = 1; t: a[0] = 2; u: a[0] = 3;", "s: 5; t: 9; u: 4", "s[] u[] a0"},
		{"array a[9]; s: a[0] = 1; t: a[0] = 2; u: a[1] = a[0];", "s: 5; t: 9; u: 4", "s[] u[] a0"},
		{"array a[9]; s: a[1] = a[0]; t: a[0] = 2; u: a[0] = 2;", "s: 5; t: 9; u: 4", "s[] u[] a0"},
		// The first To counts, then the first From.
		{"array a[9]; s: a[0] = 1; t: a[1] = 1; u: a[2] = a[1]; v: a[3] = a[0];", "s: 5; t: 5; u: 4; v: 4", "t[] u[] a1"},
		{"array a[9]; s: a[0] = 1; t: a[1] = 1; u: a[2] = a[1] + a[0];", "s: 5; t: 5; u: 4", "s[] u[] a0"},
		{"array a[9]; s: a[1] = 1; t: a[0] = 1; u: a[2] = a[0] + a[1];", "s: 5; t: 5; u: 4", "s[] u[] a1"},
		// Then the first cell, by arrays as they are declared, whatever is read first.
		{arrays + "s: a[0] = b[5] + c[3]; r: b[5] = c[4] + a[0]; t: c[3] = 1;", "s: 1; r: 0; t: 2", "s[] r[] b5"},
		{arrays + "s: a[3] = c[2] + a[1] + a[2]; t: a[1] = a[3];", "s: 1; t: 0", "s[] t[] a1"},
		{arrays + "s: a[3] = c[2] + b[7]; t: b[7] = a[3];", "s: 1; t: 0", "s[] t[] b7"},
		{arrays + "s: c[8] = c[2] + b[7]; t: c[2] = c[8];", "s: 1; t: 0", "s[] t[] c2"},
		{arrays + "s: c[0] = a[1]; t: a[1] = c[0];", "s: 1; t: 0", "s[] t[] c0"},
		// Loops that run once or not at all.
		{"array a[9]; for i = 5 .. 5 { s: a[0] = a[0]; } for i = 5 .. 4 { t: a[0] = 1; }", "s: i; t: i", ""},
	} {
		x, is, e := schedule.Legal(program(t, c.text), plans(t, c.plans))
		want := c.want
		if want == "" {
			want = turned(api.Turned{})
		}
		same(t, c.text+" "+c.plans, []any{turned(x), is, e}, []any{want, c.want == "", api.OK})
	}
}

// P5.2: all instances by their times.
func TestOrder(t *testing.T) {
	const text = "array a[99]; for i = 0 .. 2 { s: a[i] = 1; for j = 0 .. 1 { t: a[i] = 2; } } "
	for _, c := range []struct{ text, plans, want string }{
		{"", "", ""},
		{"array a[1]; for i = 1 .. 0 { s: a[i] = 1; }", "s: i", ""},
		{text, "s: 0; t: 0", "s[0] t[0 0] t[0 1] s[1] t[1 0] t[1 1] s[2] t[2 0] t[2 1]"},
		{text, "s: -i; t: -i", "s[2] t[2 0] t[2 1] s[1] t[1 0] t[1 1] s[0] t[0 0] t[0 1]"},
		{text, "s: 1, 0; t: j, i", "t[0 0] t[1 0] t[2 0] s[0] t[0 1] s[1] s[2] t[1 1] t[2 1]"},
		{text, "s: 3*i; t: i + j", "s[0] t[0 0] t[0 1] t[1 0] t[1 1] t[2 0] s[1] t[2 1] s[2]"},
		{text, "s: 0, 0, i; t: 0, -1, j", "t[0 0] t[1 0] t[2 0] t[0 1] t[1 1] t[2 1] s[0] s[1] s[2]"},
	} {
		l, e := schedule.Order(program(t, c.text), plans(t, c.plans))
		same(t, c.text+c.plans, []any{done(l), e}, []any{c.want, api.OK})
	}
}

// P5.3: which indices of times are parallel, and how many times there are.
func TestParallelAndLatency(t *testing.T) {
	for _, c := range []struct {
		text, plans string
		parallel    []bool
		many, most  int
	}{
		{"", "", nil, 0, 0},
		{"array a[1]; for i = 1 .. 0 { s: a[i] = 1; }", "s: i, i", []bool{true, true}, 0, 0},
		{example, "s: i + j", []bool{false}, 5, 3},
		{example, "s: i + j, i", []bool{false, true}, 9, 1},
		{example, "s: 0, i, 0, j, 0", []bool{true, false, true, false, true}, 9, 1},
		{example, "s: j, i", []bool{false, false}, 9, 1},
		{example, "s: i", []bool{false}, 3, 3},
		{example, "s: 0", []bool{true}, 1, 9},
		{example, "s: 0, 7", []bool{true, true}, 1, 9},
		// It does not matter whether the schedule is legal, nor which time is smaller.
		{example, "s: -i, 0, -j", []bool{false, true, false}, 9, 1},
		{example, "s: i - j", []bool{false}, 5, 3},
		{"array a[9]; for i = 0 .. 5 { s: a[i] = a[i]; }", "s: i", []bool{true}, 6, 1},
		{"array a[9]; for i = 0 .. 5 { s: a[i] = 1; } for i = 0 .. 5 { t: a[i] = 2; }", "s: 0, i; t: 1, i", []bool{false, true}, 12, 1},
		{"array a[9]; for i = 0 .. 5 { s: a[i] = 1; } for i = 0 .. 5 { t: a[i] = 2; }", "s: i, 0; t: i, 1", []bool{true, false}, 12, 1},
		{"array a[9]; for i = 0 .. 5 { s: a[i] = 1; } for i = 0 .. 5 { t: a[i] = 2; }", "s: i, 0; t: i, 0", []bool{true, true}, 6, 2},
		{"array a[9]; for i = 0 .. 5 { s: a[i] = 1; } for i = 0 .. 5 { t: a[5 - i] = 2; }", "s: i, 0; t: i, 1", []bool{false, true}, 12, 1},
		// Pairs that are not direct ones count: s and u have equal times at 0, and t is between.
		{"array a[9]; s: a[0] = 1; t: a[0] = 2; u: a[0] = 3;", "s: 0, 0; t: 1, 5; u: 0, 1", []bool{false, false}, 3, 1},
		{"array a[9]; s: a[0] = 1; t: a[0] = 2; u: a[0] = 3;", "s: 0, 0; t: 1, 5; u: 0, 0", []bool{false, true}, 2, 2},
		{"array a[9]; s: a[0] = 1; t: a[0] = 2; u: a[0] = 3;", "s: 0, 0; t: 1, 5; u: 2, 0", []bool{false, true}, 3, 1},
		// Different times, whatever the statement.
		{"array a[9]; for i = 0 .. 3 { s: a[i] = 1; t: a[i + 4] = 1; }", "s: i; t: 3*i", []bool{true}, 6, 2},
		{"array a[9]; for i = 0 .. 3 { s: a[i] = 1; t: a[i + 4] = 1; }", "s: i, 1; t: 3*i, 2", []bool{true, true}, 8, 1},
		{"array a[9]; for i = 0 .. 3 { s: a[i] = 1; t: a[i + 4] = 1; u: a[8] = 2; }", "s: 0; t: 1; u: -5", []bool{true}, 3, 4},
	} {
		p, l := program(t, c.text), plans(t, c.plans)
		parallel, e := schedule.Parallel(p, l)
		same(t, c.text+" "+c.plans, []any{parallel, e}, []any{c.parallel, api.OK})
		many, most, e := schedule.Latency(p, l)
		same(t, c.text+" "+c.plans, []any{many, most, e}, []any{c.many, c.most, api.OK})
	}
}

// P5.3: how many instances the longest chain has that ends before each one.
func TestEarliest(t *testing.T) {
	for _, c := range []struct {
		text string
		want []int
		many int
	}{
		{"", nil, 0},
		{"array a[1]; for i = 1 .. 0 { s: a[i] = 1; }", nil, 0},
		{"array a[1]; s: a[0] = a[0];", []int{0}, 1},
		{example, []int{0, 1, 2, 1, 2, 3, 2, 3, 4}, 5},
		{"array a[4]; for i = 0 .. 3 { s: a[i] = a[i]; }", []int{0, 0, 0, 0}, 1},
		{"array a[4]; for i = 0 .. 3 { s: a[0] = 1; }", []int{0, 1, 2, 3}, 4},
		// Reads of one cell do not depend on each other, but what sets it depends on all.
		{"array a[9]; for i = 1 .. 3 { s: a[i] = a[0]; } t: a[0] = 1; u: a[5] = a[0]; v: a[6] = a[0];", []int{0, 0, 0, 1, 2, 2}, 3},
		{"array a[9]; s: a[0] = 1; t: a[1] = a[0]; u: a[2] = a[1]; v: a[0] = 2; w: a[2] = a[0];", []int{0, 1, 2, 2, 3}, 4},
		{"array a[9]; s: a[0] = 1; t: a[1] = 1; u: a[2] = a[1]; v: a[3] = a[2] + a[0];", []int{0, 0, 1, 2}, 3},
	} {
		l, n, e := schedule.Earliest(program(t, c.text))
		same(t, c.text, []any{l, n, e}, []any{c.want, c.many, api.OK})
	}
}

// P5.3: the legal schedule with the least latency, of several the least one.
func TestSearch(t *testing.T) {
	const sums = "array a[9]; for i = 0 .. %d { for j = 0 .. %d { s: a[0] = a[0] + 1; } }"
	for _, c := range []struct {
		text string
		most int
		want string
		many int
	}{
		{"", 1, "", 0},
		{"for i = 0 .. 1 { }", 3, "", 0},
		{"array a[1]; for i = 1 .. 0 { s: a[i] = 1; }", 3, "s: 0", 0},
		{example, 1, "s: i + j", 5},
		{example, 3, "s: i + j", 5},
		{"array a[9]; for i = 0 .. 5 { s: a[i] = 1; }", 2, "s: 0", 1},
		{"array a[9]; for i = 0 .. 5 { s: a[0] = 1; }", 2, "s: i", 6},
		{"array a[9]; s: a[0] = 1; t: a[0] = 1;", 1, "s: 0; t: 1", 2},
		{"array a[9]; s: a[0] = 1; t: a[0] = 1; u: a[0] = 1;", 1, "none", 0},
		{"array a[9]; s: a[0] = 1; t: a[0] = 1; u: a[0] = 1;", 2, "s: 0; t: 1; u: 2", 3},
		{"array a[9]; s: a[0] = 1; t: a[1] = 1; u: a[0] = a[1];", 2, "s: 0; t: 0; u: 1", 2},
		// More than a Coef of 1 is needed, and not more than 3 can be had.
		{fmt.Sprintf(sums, 1, 1), 1, "none", 0},
		{fmt.Sprintf(sums, 1, 1), 2, "s: 2*i + j", 4},
		{fmt.Sprintf(sums, 4, 2), 2, "none", 0},
		{fmt.Sprintf(sums, 4, 2), 3, "s: 3*i + j", 15},
		{fmt.Sprintf(sums, 4, 3), 3, "none", 0},
		// A loop that would have to be turned.
		{"array a[9]; for i = 0 .. 3 { s: a[i] = 1; } for i = 0 .. 3 { t: a[3 - i] = 1; }", 1, "s: 0; t: 1", 2},
		{"array a[9]; for i = 1 .. 4 { for j = 0 .. 3 { s: a[j + 1] = a[j] + a[j + 2]; } }", 3, "s: 2*i + j", 10},
		{"array a[9, 9]; for i = 1 .. 4 { for j = 0 .. 3 { s: a[i, j] = a[i - 1, j] + a[i - 1, j + 1]; } }", 3, "s: i", 4},
		// The outer loop is the first one, whatever its name; of two with one latency the one whose first Coef is less.
		{"array a[9, 9]; for j = 1 .. 3 { for i = 1 .. 3 { s: a[i, j] = a[i - 1, j - 1]; } }", 2, "s: i", 3},
		{"array a[9, 9]; for i = 1 .. 3 { for j = 1 .. 3 { s: a[i, j] = a[i - 1, j - 1]; } }", 2, "s: j", 3},
		{"array a[9, 9]; for j = 1 .. 3 { for i = 1 .. 4 { s: a[i, j] = a[i - 1, j - 1]; } }", 2, "s: j", 3},
		// All of s can be done at once, but then t needs all its times as well: no better than this is the least one.
		{"array a[9]; for i = 0 .. 5 { s: a[i] = 1; t: a[6] = a[i]; }", 1, "s: 0; t: i + 1", 7},
		{"array a[9]; array b[9]; for i = 1 .. 3 { s: a[i] = b[i - 1]; t: b[i] = a[i - 1]; }", 1, "s: i; t: i", 3},
		{"array a[9]; array b[9]; for i = 1 .. 3 { s: a[i] = b[i - 1]; t: b[i] = a[i]; }", 1, "none", 0},
		{"array a[9]; array b[9]; for i = 1 .. 3 { s: a[i] = b[i - 1]; t: b[i] = a[i]; }", 2, "s: 2*i; t: 2*i + 1", 6},
		// Coefs of statements can be different ones; what is done at once need not belong to one round.
		{"array a[9]; array b[9]; for i = 1 .. 3 { s: a[i] = b[i - 1]; t: b[i] = a[i - 1]; u: b[i] = b[i] + 1; }", 3, "s: 3*i; t: 2*i + 1; u: 2*i + 3", 5},
		// Const of the first statement has to be above 0, as it comes last.
		{"array a[9]; array b[9]; for i = 1 .. 3 { t: b[i] = 1; s: a[i] = b[i + 1] + a[i - 1]; }", 3, "t: 3; s: i", 3},
		{"array a[9]; array b[9]; for i = 1 .. 3 { t: b[i] = 1; s: a[i] = b[i + 1] + a[i - 1]; }", 2, "t: i; s: i", 3},
	} {
		l, n, is, e := schedule.Search(program(t, c.text), c.most)
		want := []any{c.want, c.many, true, api.OK}
		if c.want == "none" {
			want = []any{"", 0, false, api.OK}
		}
		same(t, fmt.Sprint(c.most, " ", c.text), []any{written(l), n, is, e}, want)
	}
}

// loopsWith is so many loops around a statement that sets a cell out of the array, and so many statements behind them.
func loopsWith(loops, behind int) string {
	text := "array a[9]; "
	for i := range loops {
		text += fmt.Sprintf("for i%d = 0 .. 1 { ", i)
	}
	text += "s: a[9] = 1; "
	for range loops {
		text += "} "
	}
	for i := range behind {
		text += fmt.Sprintf("t%d: a[0] = 1; ", i)
	}
	return text
}

// P5.3: errors of Search, ahead of those of runs.
func TestErrorsOfSearch(t *testing.T) {
	for _, c := range []struct {
		text string
		most int
		want api.Errno
	}{
		{loopsWith(11, 9), 0, api.ErrArg},
		{loopsWith(11, 9), 4, api.ErrArg},
		{loopsWith(11, 9), -1, api.ErrArg},
		{loopsWith(11, 0), 1, api.ErrRule},
		{loopsWith(11, 1), 1, api.ErrFull},
		{loopsWith(0, 11), 1, api.ErrRule},
		{loopsWith(0, 12), 1, api.ErrFull},
		{loopsWith(5, 6), 1, api.ErrRule},
		{loopsWith(5, 7), 1, api.ErrFull},
		{loopsWith(6, 0), 2, api.ErrRule},
		{loopsWith(7, 0), 2, api.ErrFull},
		{loopsWith(2, 4), 2, api.ErrRule},
		{loopsWith(2, 5), 2, api.ErrFull},
		{loopsWith(5, 0), 3, api.ErrRule},
		{loopsWith(6, 0), 3, api.ErrFull},
		{loopsWith(0, 5), 3, api.ErrRule},
		{loopsWith(0, 6), 3, api.ErrFull},
		{loopsWith(0, 200), 3, api.ErrFull},
		// Loops count for each statement in them; conditions do not count.
		{"array a[9]; for i = 0 .. 1 { for j = 0 .. 1 { s: a[9] = 1; t: a[0] = 1; } }", 3, api.ErrRule},
		{"array a[9]; for i = 0 .. 1 { for j = 0 .. 1 { s: a[9] = 1; t: a[0] = 1; } } u: a[0] = 1;", 3, api.ErrFull},
		{"array a[9]; for i = 0 .. 1 { if i >= 0 { for j = 0 .. 1 { for k = 0 .. 1 { } if i >= 0 { s: a[9] = 1; } t: a[0] = 1; } } }", 3, api.ErrRule},
	} {
		l, n, is, e := schedule.Search(program(t, c.text), c.most)
		same(t, fmt.Sprint(c.most, " ", c.text), []any{l, n, is, e}, []any{[]int{}, 0, false, c.want})
	}
	for _, most := range extremes() {
		_, _, _, e := schedule.Search(program(t, example), most)
		same(t, "most", e, api.ErrArg)
	}
}
