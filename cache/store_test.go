package cache_test

import (
	"fmt"
	"testing"

	"warpbeam/api"
	"warpbeam/cache"
)

// example has the lines of the chapter's example.
const example = "0 1 0 2 0 1"

func TestCheckCache(t *testing.T) {
	most := api.Cache{Line: api.MaxLine, Sets: api.MaxSets, Ways: api.MaxWays}
	same(t, "least", cache.CheckCache(api.Cache{Line: 1, Sets: 1, Ways: 1}), api.OK)
	same(t, "most", cache.CheckCache(most), api.OK)
	for _, n := range outside(1, api.MaxLine) {
		same(t, "Line", cache.CheckCache(api.Cache{Line: n, Sets: 1, Ways: 1}), api.ErrArg)
	}
	for _, n := range outside(1, api.MaxSets) {
		same(t, "Sets", cache.CheckCache(api.Cache{Line: 1, Sets: n, Ways: 1}), api.ErrArg)
	}
	for _, n := range outside(1, api.MaxWays) {
		same(t, "Ways", cache.CheckCache(api.Cache{Line: 1, Sets: 1, Ways: n}), api.ErrArg)
	}
}

// P8.2, P8.4: all functions with a cache have its error.
func TestCacheErrors(t *testing.T) {
	for _, c := range []api.Cache{{Line: 0, Sets: 1, Ways: 1}, {Line: 1, Sets: 1_025, Ways: 1}, {Line: 1, Sets: 1, Ways: 65}} {
		x := right(t)
		x.cache = c
		fails(t, fmt.Sprint(c), program(t, three), x, "Simulate Misses BestTile BestOrder", api.ErrArg)
	}
}

// simulated is what Simulate and Misses return, if the array a has a place.
type simulated struct {
	text   string
	place  string
	cache  api.Cache
	tally  api.Tally
	misses []int
}

func checkSimulated(t *testing.T, l []simulated) {
	t.Helper()
	for _, c := range l {
		what := fmt.Sprint(c.text, " at ", c.place, " in ", c.cache)
		p := touching(t, 100, c.text)
		tally, e := cache.Simulate(p, places(t, c.place), c.cache)
		same(t, what, []any{tally, e}, []any{c.tally, api.OK})
		misses, e := cache.Misses(p, places(t, c.place), c.cache)
		same(t, what, []any{misses, e}, []any{append([]int{}, c.misses...), api.OK})
	}
}

// P8.2: which accesses miss, and of which kind they are.
func TestSimulate(t *testing.T) {
	checkSimulated(t, []simulated{
		{example, "a 0", api.Cache{Line: 1, Sets: 1, Ways: 2}, api.Tally{Hits: 2, Cold: 3, Room: 1, Back: 4}, []int{0, 1, 3, 5}},
		{example, "a 0", api.Cache{Line: 1, Sets: 1, Ways: 1}, api.Tally{Cold: 3, Room: 3, Back: 6}, []int{0, 1, 2, 3, 4, 5}},
		{example, "a 0", api.Cache{Line: 1, Sets: 1, Ways: 3}, api.Tally{Hits: 3, Cold: 3, Back: 3}, []int{0, 1, 3}},
		// All in one line, and in two ones, as the place is another one.
		{example, "a 0", api.Cache{Line: 3, Sets: 1, Ways: 1}, api.Tally{Hits: 5, Cold: 1, Back: 1}, []int{0}},
		{example, "a 1", api.Cache{Line: 3, Sets: 1, Ways: 1}, api.Tally{Hits: 3, Cold: 2, Room: 1, Back: 3}, []int{0, 3, 4}},
		// 0 and 2 lie in one set, for which there is room in the other one.
		{example, "a 0", api.Cache{Line: 1, Sets: 2, Ways: 1}, api.Tally{Hits: 2, Cold: 3, Clash: 1, Back: 4}, []int{0, 1, 3, 4}},
		{"0 2 0 2", "a 0", api.Cache{Line: 1, Sets: 2, Ways: 1}, api.Tally{Cold: 2, Clash: 2, Back: 4}, []int{0, 1, 2, 3}},
		{"0 2 0 2", "a 0", api.Cache{Line: 1, Sets: 1, Ways: 2}, api.Tally{Hits: 2, Cold: 2, Back: 2}, []int{0, 1}},
		{"0 2 0 2", "a 0", api.Cache{Line: 1, Sets: 3, Ways: 1}, api.Tally{Hits: 2, Cold: 2, Back: 2}, []int{0, 1}},
		{"0 4 0 4", "a 0", api.Cache{Line: 4, Sets: 2, Ways: 1}, api.Tally{Hits: 2, Cold: 2, Back: 2}, []int{0, 1}},
		{"0 8 0 8", "a 0", api.Cache{Line: 4, Sets: 2, Ways: 1}, api.Tally{Cold: 2, Clash: 2, Back: 4}, []int{0, 1, 2, 3}},
		// The distance of 0 is 1 and then 2, as much as there are lines; that of 2 is 2, too.
		{"0 2 0 1 2 0", "a 0", api.Cache{Line: 1, Sets: 2, Ways: 1}, api.Tally{Cold: 3, Room: 2, Clash: 1, Back: 6}, []int{0, 1, 2, 3, 4, 5}},
		// A hit where one set would have no room.
		{"0 1 3 0", "a 0", api.Cache{Line: 1, Sets: 2, Ways: 1}, api.Tally{Hits: 1, Cold: 3, Back: 3}, []int{0, 1, 2}},
		// What was used last stays, and not what came last.
		{"0 1 0 2 0 1 2", "a 0", api.Cache{Line: 1, Sets: 1, Ways: 2}, api.Tally{Hits: 2, Cold: 3, Room: 2, Back: 5}, []int{0, 1, 3, 5, 6}},
		{"", "a 0", api.Cache{Line: 1, Sets: 1, Ways: 1}, api.Tally{}, nil},
	})
}

// P8.2: lines that are dirty, and just those, are written back when they go out or at the end.
func TestWrittenBack(t *testing.T) {
	two := api.Cache{Line: 1, Sets: 1, Ways: 2}
	checkSimulated(t, []simulated{
		// 9 is set, 1 is just read.
		{"9=1", "a 0", two, api.Tally{Cold: 2, Back: 1}, []int{0, 1}},
		// 1 and 2 go out without being dirty.
		{"9=1 9=2+1", "a 0", two, api.Tally{Hits: 0, Cold: 3, Room: 2, Back: 2}, []int{0, 1, 2, 3, 4}},
		// What was set stays dirty while it is read: 0 goes out as 2 comes in.
		{"0 1=0 2", "a 0", two, api.Tally{Hits: 1, Cold: 3, Back: 3}, []int{0, 2, 3}},
		// What was read becomes dirty when it is set: 0 is read, set, and goes out.
		{"0=0 1 2", "a 0", two, api.Tally{Hits: 1, Cold: 3, Back: 3}, []int{0, 2, 3}},
		// 0 goes out dirty, comes in by a read, and goes out without being dirty.
		{"0 1 2 3=0 4 5", "a 0", two, api.Tally{Cold: 6, Room: 1, Back: 6}, []int{0, 1, 2, 3, 4, 5, 6}},
		// A line is written back as a whole, once.
		{"0 1 2 3", "a 0", api.Cache{Line: 4, Sets: 1, Ways: 1}, api.Tally{Hits: 3, Cold: 1, Back: 1}, []int{0}},
		{"3=0+1+2", "a 0", api.Cache{Line: 4, Sets: 1, Ways: 1}, api.Tally{Hits: 3, Cold: 1, Back: 1}, []int{0}},
	})
}

// P8.2: arrays lie where their places are, turned or not.
func TestSimulatePlaces(t *testing.T) {
	p := program(t, "array a[4, 8]; array b[8]; for i = 0 .. 3 { for j = 0 .. 7 { s: b[j] = a[i, j]; } }")
	for _, c := range []struct {
		places string
		cache  api.Cache
		want   api.Tally
	}{
		{"a 0, b 32", api.Cache{Line: 8, Sets: 1, Ways: 2}, api.Tally{Hits: 59, Cold: 5, Back: 1}},
		{"a 0 turned, b 32", api.Cache{Line: 8, Sets: 1, Ways: 2}, api.Tally{Hits: 47, Cold: 5, Room: 12, Back: 1}},
		{"a 0, b 36", api.Cache{Line: 8, Sets: 1, Ways: 2}, api.Tally{Hits: 52, Cold: 6, Room: 6, Back: 8}},
		{"a 0, b 32", api.Cache{Line: 8, Sets: 2, Ways: 1}, api.Tally{Hits: 30, Cold: 5, Clash: 29, Back: 16}},
	} {
		tally, e := cache.Simulate(p, places(t, c.places), c.cache)
		same(t, c.places, []any{tally, e}, []any{c.want, api.OK})
		want, _ := naiveTally(t, p, places(t, c.places), c.cache)
		same(t, c.places, tally, want)
	}
}
