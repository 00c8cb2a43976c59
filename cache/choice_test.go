package cache_test

import (
	"fmt"
	"slices"
	"strconv"
	"strings"
	"testing"

	"warpbeam/api"
	"warpbeam/cache"
	"warpbeam/nest"
)

// turns is a program in which one of two arrays is always used crosswise.
const turns = "array a[8, 8]; array b[8, 8]; for i = 0 .. 7 { for j = 0 .. 7 { s: b[j, i] = a[i, j]; } }"

// P8.4: the size with the fewest misses, the first one of several.
func TestBestTile(t *testing.T) {
	for _, c := range []struct {
		cache        api.Cache
		sizes        []int
		size, misses int
	}{
		// Of both arrays 4 lines are used in a tile with the size 4, so each line misses once.
		{api.Cache{Line: 4, Sets: 1, Ways: 8}, []int{1, 2, 4, 8}, 4, 32},
		{api.Cache{Line: 4, Sets: 1, Ways: 8}, []int{8, 4}, 4, 32},
		{api.Cache{Line: 4, Sets: 1, Ways: 8}, []int{8}, 8, 80},
		{api.Cache{Line: 4, Sets: 1, Ways: 8}, []int{1_000, 8, 1}, 1_000, 80},
		// If all has room, the first one is as good as the others.
		{api.Cache{Line: 4, Sets: 1, Ways: 32}, []int{2, 4, 8}, 2, 32},
		{api.Cache{Line: 4, Sets: 1, Ways: 32}, []int{8, 4, 2, 8}, 8, 32},
		// If there is no room at all but for one line, misses of all kinds count.
		{api.Cache{Line: 4, Sets: 1, Ways: 1}, []int{8, 2}, 8, 128},
		{api.Cache{Line: 1, Sets: 64, Ways: 1}, []int{3, 5}, 3, 128},
	} {
		p := program(t, turns)
		what := fmt.Sprint(c.cache, c.sizes)
		size, misses, e := cache.BestTile(p, 0, c.sizes, c.cache)
		same(t, what, []any{size, misses, e}, []any{c.size, c.misses, api.OK})
		size, misses, e = naiveTile(t, p, 0, c.sizes, c.cache)
		same(t, what, []any{c.size, c.misses}, []any{size, misses})
	}
}

// P8.4: the errors of sizes, and those of shape.Tile with the names that the chapter tells, for each size in order.
func TestBestTileErrors(t *testing.T) {
	many := slices.Repeat([]int{2}, 20)
	for _, c := range []struct {
		text  string
		loop  int
		sizes []int
		want  api.Errno
	}{
		{turns, 0, many, api.OK},
		{turns, 0, nil, api.ErrNone},
		{turns, 1, nil, api.ErrNone},
		{turns, 0, append(many, 2), api.ErrLarge},
		{turns, 9, append(many, 0), api.ErrLarge},
		{turns, 2, []int{2}, api.ErrNone},
		{turns, -1, []int{0}, api.ErrNone},
		{turns, 0, []int{0}, api.ErrArg},
		{turns, 0, []int{2, 3, 1_001}, api.ErrArg},
		{turns, 0, []int{2, -1, 3}, api.ErrArg},
		{turns, 1, []int{2, 0}, api.ErrForm},
		{turns, 1, []int{0, 2}, api.ErrArg},
		{"array a[9, 9]; for i = 0 .. 4 { for tile_o = 0 .. 4 { s: a[i, tile_o] = 1; } }", 0, []int{2}, api.ErrTwice},
		{"array a[9, 9]; for tile_i = 0 .. 4 { for j = 0 .. 4 { s: a[tile_i, j] = 1; } }", 0, []int{2}, api.ErrTwice},
		{"array tile_o[9, 9]; for i = 0 .. 4 { for j = 0 .. 4 { s: tile_o[i, j] = 1; } }", 0, []int{2}, api.ErrTwice},
		{"array outer[9, 9]; for i = 0 .. 4 { for inner = 0 .. 4 { tile: outer[i, inner] = 1; } }", 0, []int{2}, api.OK},
		// With tiles of one round nothing is turned.
		{"array a[9, 9]; for i = 1 .. 4 { for j = 0 .. 4 { s: a[i, j] = a[i - 1, j + 1]; } }", 0, []int{1}, api.OK},
		{"array a[9, 9]; for i = 1 .. 4 { for j = 0 .. 4 { s: a[i, j] = a[i - 1, j + 1]; } }", 0, []int{1, 2, 0}, api.ErrRule},
	} {
		p := program(t, c.text)
		size, misses, e := cache.BestTile(p, c.loop, c.sizes, api.Cache{Line: 2, Sets: 2, Ways: 2})
		same(t, fmt.Sprint(c.text, c.loop, c.sizes), e, c.want)
		if e != api.OK {
			same(t, "results", []any{size, misses}, "[0 0]")
		}
		// The cache comes first.
		_, _, e = cache.BestTile(p, c.loop, c.sizes, api.Cache{Line: 2, Sets: 2})
		same(t, fmt.Sprint(c.text, c.loop, c.sizes), e, api.ErrArg)
	}
}

// crosswise makes loops over an array that is used crosswise, which can be exchanged, but neither reversed nor fused.
func crosswise(keys ...string) string {
	text := ""
	for _, key := range keys {
		text += "array " + key + "[9, 9]; "
	}
	for n, key := range keys {
		text += "for i = 1 .. " + strconv.Itoa(4+n) + " { for j = 1 .. 8 { s" + key + ": " + key + "[j, i] = " + key + "[j - 1, i] + " + key + "[j, i - 1]; } } "
	}
	return text
}

// P8.4: the moves with the fewest misses; of several lists the shortest one, then the least one.
func TestBestOrder(t *testing.T) {
	small := api.Cache{Line: 3, Sets: 1, Ways: 2}
	for _, c := range []struct {
		what, text string
		cache      api.Cache
		want       string
	}{
		{"nothing to do", "", small, "[] 0"},
		{"no loops", "array a[9]; s: a[0] = a[8];", small, "[] 2"},
		{"nothing is better", "array a[9]; for i = 0 .. 8 { s: a[i] = 1; }", small, "[] 3"},
		{"one is exchanged", crosswise("a"), small, "[{1 0 0}]"},
		// To exchange the second one first is as good.
		{"both are exchanged", crosswise("a", "b"), small, "[{1 0 0} {1 2 0}]"},
		{"three are exchanged", crosswise("a", "b", "c"), small, "[{1 0 0} {1 2 0} {1 4 0}]"},
		// The later ones have more rounds.
		{"three of four are exchanged", crosswise("a", "b", "c", "d"), small, "[{1 2 0} {1 4 0} {1 6 0}]"},
		// All has room.
		{"nothing is exchanged", crosswise("a", "b"), api.Cache{Line: 3, Sets: 16, Ways: 16}, "[] "},
		{"one that is used twice is fused", "array a[40]; array b[40]; for i = 0 .. 38 { s: a[i] = a[i] + a[i + 1]; } for j = 0 .. 38 { t: b[j] = a[j] + b[j] + b[j + 1]; }", api.Cache{Line: 3, Sets: 1, Ways: 4}, "[{3 0 0}] 28"},
		{"one is reversed", "array a[40]; array b[40]; for i = 0 .. 38 { s: a[i + 1] = a[i] + 1; } for j = 0 .. 39 { t: b[j] = a[j]; }", small, "[{2 1 0}] 41"},
		{"one is split", "array a[9]; array b[9]; array c[9]; for i = 0 .. 8 { s: a[i] = 1; t: b[i] = 2; u: c[i] = 3; }", small, "[{4 0 1}] 9"},
	} {
		p := program(t, c.text)
		moves, misses, e := cache.BestOrder(p, c.cache)
		same(t, c.what, e, api.OK)
		if got := fmt.Sprint(moves, misses); !strings.HasPrefix(got, c.want) {
			t.Errorf("%s: got %s, want %s", c.what, got, c.want)
		}
		want, many, e := naiveOrder(t, p, c.cache)
		same(t, c.what, []any{moves, misses, api.OK}, []any{append([]api.Move{}, want...), many, e})
	}
}

// loops are so many loops that can just be reversed.
func loops(many int) string {
	text := "array a[999]; "
	for n := range many {
		text += fmt.Sprint("for i = 0 .. ", n, " { s", n, ": a[i + ", n*20, "] = 1; } ")
	}
	return text
}

// With these there are 200 and 201 lists of at most three moves.
const (
	lists200 = "for i = 0 .. 1 { if i + 1 >= 0 { s1: c[i, 1, -i + 2] = b[0, i] + 1; } for j = 1 .. 3 { for k = 1 .. 1 { s2: b[2, i] = b[k, -j + 4] - a[k]; } for k = 1 .. 1 { s3: b[-j + 3, j] = b[j, 1]; s4: b[i, 0] = a[j]; } } }"
	lists201 = "for i = 1 .. 2 { for j = 1 .. 3 { for k = 1 .. 3 { s1: b[j, 4] = a[j] + 1; } } for j = 1 .. 3 { for k = 1 .. 3 { s2: b[-k + 3, k] = b[i, 0] - b[k, k]; } } }"
)

// P8.4: there are at most 200 lists.
func TestManyLists(t *testing.T) {
	c := api.Cache{Line: 2, Sets: 2, Ways: 1}
	for _, x := range []struct {
		text  string
		lists int
		want  api.Errno
	}{
		{loops(5), 156, api.OK},
		{loops(6), 259, api.ErrFull},
		{loops(45), 201, api.ErrFull},
		{arrays + lists200, 200, api.OK},
		{arrays + lists201, 201, api.ErrFull},
	} {
		p := program(t, x.text)
		moves, misses, e := cache.BestOrder(p, c)
		same(t, x.text, e, x.want)
		if e != api.OK {
			same(t, x.text, []any{moves, misses}, "[[] 0]")
		}
		if n := len(naiveChoices(t, p, c, 3)); min(n, 201) != min(x.lists, 201) {
			t.Error(x.text, n)
		}
		_, _, e = cache.BestOrder(p, api.Cache{Line: 2, Sets: 2})
		same(t, x.text, e, api.ErrArg)
	}
}

// sumOf is a sum of the same as often as it can be read.
func sumOf(x api.Expr, depth int) api.Expr {
	if depth == api.MaxDepth {
		return x
	}
	y := sumOf(x, depth+1)
	return api.Expr{Op: api.OpAdd, Args: []api.Expr{y, y}}
}

// P8.4: programs can be larger than their texts.
func TestBestOrderOfLargePrograms(t *testing.T) {
	key := strings.Repeat("k", api.MaxName)
	p := program(t, "array "+key+"[4, 2]; array b[4, 2]; for i = 0 .. 1 { for j = 0 .. 3 { s: b[j, i] = "+key+"[j, i]; } }")
	s := &p.Steps[0].Body[0].Body[0]
	s.Expr = sumOf(s.Expr, 1)
	c := api.Cache{Line: 2, Sets: 1, Ways: 2}
	moves, misses, e := cache.BestOrder(p, c)
	same(t, "BestOrder", []any{moves, misses, e}, "[[{Kind:1 Loop:0 Arg:0}] 8 0]")
	want, many, e := naiveOrder(t, p, c)
	same(t, "BestOrder", []any{moves, misses, api.OK}, []any{want, many, e})
	_, e = nest.Text(p)
	same(t, "Text", e, api.ErrLarge)
}
