package cache_test

import (
	"fmt"
	"testing"

	"warpbeam/api"
	"warpbeam/cache"
)

// P8.3: how many other lines have been used since.
func TestDistances(t *testing.T) {
	for _, c := range []struct {
		text, place string
		line        int
		want        []int
	}{
		{example, "a 0", 1, []int{-1, -1, 1, -1, 1, 2}},
		{example, "a 0", 2, []int{-1, 0, 0, -1, 1, 0}},
		{example, "a 1", 2, []int{-1, -1, 1, 1, 1, 1}},
		{example, "a 0", 3, []int{-1, 0, 0, 0, 0, 0}},
		// Each other line counts once, however often it is used.
		{"0 1 1 2 1 2 0", "a 0", 1, []int{-1, -1, 0, -1, 1, 1, 2}},
		{"0 1 2 3 3 2 1 0", "a 0", 1, []int{-1, -1, -1, -1, 0, 1, 2, 3}},
		{"0 1 2 0 1 2", "a 999999", 1, []int{-1, -1, -1, 2, 2, 2}},
		{"9=8+9+7", "a 0", 1, []int{-1, -1, -1, 1}},
		{"", "a 0", 1, nil},
	} {
		l, e := cache.Distances(touching(t, 10, c.text), places(t, c.place), c.line)
		same(t, c.text, []any{l, e}, []any{append([]int{}, c.want...), api.OK})
	}
}

// P8.3: the misses of caches of one set.
func TestCurve(t *testing.T) {
	for _, c := range []struct {
		text       string
		line, most int
		want       []int
	}{
		{example, 1, 1, []int{6}},
		{example, 1, 3, []int{6, 4, 3}},
		{example, 1, 5, []int{6, 4, 3, 3, 3}},
		{example, 2, 2, []int{3, 2}},
		{"0 0 0", 1, 2, []int{1, 1}},
		{"0 1 2 3 0 1 2 3", 1, 5, []int{8, 8, 8, 4, 4}},
		{"", 1, 3, []int{0, 0, 0}},
	} {
		l, e := cache.Curve(touching(t, 10, c.text), atZero(), c.line, c.most)
		same(t, c.text, []any{l, e}, []any{c.want, api.OK})
	}
	l, e := cache.Curve(touching(t, 10, example), atZero(), 1, 1_000)
	same(t, "1,000 ways", []any{len(l), l[999], e}, []any{1_000, 3, api.OK})
}

// P8.3: the fewest misses that are possible.
func TestOptimal(t *testing.T) {
	for _, c := range []struct {
		text        string
		line, lines int
		want        int
	}{
		{example, 1, 1, 6},
		{example, 1, 2, 4},
		{example, 1, 3, 3},
		{example, 1, 1_000, 3},
		{example, 2, 1, 3},
		{example, 3, 1, 1},
		// One of three is always out: that which was used longest ago is the wrong one.
		{"0 1 2 0 1 2 0 1 2", 1, 2, 6},
		{"0 1 2 0 1 2 0 1 2", 1, 3, 3},
		// What is never used again goes out at once.
		{"0 1 2 1 3 1 4 1 5 1 0", 1, 2, 7},
		{"0 1 2 3 4 0 1 2 3 4", 1, 4, 6},
		{"0 0 0 1 1 1 0", 1, 1, 3},
		{"", 1, 1, 0},
	} {
		n, e := cache.Optimal(touching(t, 10, c.text), atZero(), c.line, c.lines)
		same(t, fmt.Sprint(c.text, c.line, c.lines), []any{n, e}, []any{c.want, api.OK})
	}
}

// P8.3: the errors of lines, and of numbers of ways and lines.
func TestReuseErrors(t *testing.T) {
	p := program(t, three)
	for _, n := range outside(1, api.MaxLine) {
		x := right(t)
		x.line = n
		fails(t, fmt.Sprint("line ", n), p, x, "Pack Distances Curve Optimal", api.ErrArg)
	}
	for _, n := range outside(1, 1_000) {
		x := right(t)
		x.most = n
		fails(t, fmt.Sprint("most ", n), p, x, "Curve", api.ErrArg)
		x = right(t)
		x.lines = n
		fails(t, fmt.Sprint("lines ", n), p, x, "Optimal", api.ErrArg)
	}
	for _, n := range []int{1, 1_000} {
		x := right(t)
		x.line, x.most, x.lines = api.MaxLine, n, n
		fails(t, fmt.Sprint("bound ", n), p, x, "", api.ErrArg)
	}
}
