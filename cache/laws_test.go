package cache_test

import (
	"fmt"
	"slices"
	"testing"

	"warpbeam/api"
	"warpbeam/cache"
	"warpbeam/nest"
	"warpbeam/shape"
)

// textOf is a program with its places and a cache, to be printed.
func textOf(p api.Program, more ...any) string {
	text, _ := nest.Text(p)
	return text + fmt.Sprint(more...)
}

// What caches do is as the chapter says, use by use.
func TestCachesAreAsNaive(t *testing.T) {
	g := dice(1)
	var sum api.Tally
	for range 600 {
		p, c := g.program(t), g.cache()
		l := g.places(p)
		what := textOf(p, l, c)
		same(t, what, cache.CheckPlaces(p, l), api.OK)
		touches := naiveTouches(t, p, l)
		var want []int
		for _, x := range touches {
			want = append(want, x.at)
		}
		addresses, e := cache.Addresses(p, l)
		same(t, what, []any{addresses, e}, []any{want, api.OK})
		tally, misses := counts(t, p, l, c)
		wantTally, wantMisses := naiveTally(t, p, l, c)
		same(t, what, []any{tally, misses}, []any{wantTally, wantMisses})
		sum.Cold, sum.Room, sum.Clash, sum.Back = sum.Cold+tally.Cold, sum.Room+tally.Room, sum.Clash+tally.Clash, sum.Back+tally.Back
	}
	if min(sum.Cold, sum.Room, sum.Clash, sum.Back) < 500 {
		t.Error("too few", sum)
	}
}

func TestReuseIsAsNaive(t *testing.T) {
	g := dice(2)
	better := 0
	for range 300 {
		p := g.program(t)
		l := g.places(p)
		line, most := 1+g.below(7), 1+g.below(8)
		what := textOf(p, l, line, most)
		lines := naiveLines(naiveTouches(t, p, l), line)
		far, e := cache.Distances(p, l, line)
		same(t, what, []any{far, e}, []any{naiveDistances(lines), api.OK})
		curve, e := cache.Curve(p, l, line, most)
		same(t, what, []any{curve, e}, []any{naiveCurve(lines, most), api.OK})
		room := 1 + g.below(3)
		n, e := cache.Optimal(p, l, line, room)
		same(t, what, []any{n, e}, []any{naiveOptimal(lines, room), api.OK})
		missed, _ := naiveMisses(lines, 1, room)
		if n < len(missed) {
			better++
		}
	}
	if better < 50 {
		t.Error("seldom better", better)
	}
}

// missesOf is how many misses a program has in a cache, with places.
func missesOf(t *testing.T, p api.Program, l []api.Place, c api.Cache) int {
	t.Helper()
	_, misses := counts(t, p, l, c)
	return len(misses)
}

// What follows: more ways have no more misses; these are told by distances; no cache with as many lines has fewer than Optimal; hits and misses are all accesses.
func TestWhatFollowsOfCaches(t *testing.T) {
	g := dice(3)
	for range 200 {
		p := g.program(t)
		l := g.places(p)
		line := 1 + g.below(5)
		far, _ := cache.Distances(p, l, line)
		curve, _ := cache.Curve(p, l, line, 12)
		for ways := 1; ways <= 12; ways++ {
			what := textOf(p, l, line, ways)
			var want []int
			for i, d := range far {
				if d < 0 || d >= ways {
					want = append(want, i)
				}
			}
			tally, misses := counts(t, p, l, api.Cache{Line: line, Sets: 1, Ways: ways})
			same(t, what, misses, want)
			same(t, what, []int{tally.Clash, curve[ways-1]}, []int{0, len(misses)})
			if ways > 1 && curve[ways-1] > curve[ways-2] {
				t.Error("more misses", what)
			}
			least, _ := cache.Optimal(p, l, line, ways)
			for sets := 1; sets <= ways; sets++ {
				if ways%sets > 0 {
					continue
				}
				tally, misses := counts(t, p, l, api.Cache{Line: line, Sets: sets, Ways: ways / sets})
				if len(misses) < least {
					t.Error("fewer than Optimal", what, sets)
				}
				same(t, what, []int{tally.Cold + tally.Room + tally.Clash, tally.Hits + len(misses)}, []int{len(misses), len(far)})
			}
		}
	}
}

// What follows: turned, packed or moved, a program has at least one miss for each line that it uses.
func TestEachLineMisses(t *testing.T) {
	g := dice(4)
	for range 150 {
		p, c := g.program(t), g.cache()
		moves, _ := shape.Moves(p)
		all := []api.Program{p}
		for _, m := range moves {
			q, _ := shape.Do(p, m)
			all = append(all, q)
		}
		for _, q := range all {
			for _, l := range [][]api.Place{packs(t, q, c.Line), g.places(q)} {
				lines := map[int]bool{}
				addresses, _ := cache.Addresses(q, l)
				for _, at := range addresses {
					lines[at/c.Line] = true
				}
				tally, misses := counts(t, q, l, c)
				if len(misses) < len(lines) || tally.Cold != len(lines) {
					t.Error(textOf(q, l, c), tally, len(lines))
				}
			}
		}
	}
}

// P8.4: choices are the best ones of all.
func TestBestTileIsAsNaive(t *testing.T) {
	g := dice(5)
	count := map[api.Errno]int{}
	sizes := map[int]int{}
	for range 200 {
		p, c := g.tight(t), g.cache()
		l := []int{1 + g.below(5), 1 + g.below(5), 1 + g.below(5)}
		size, misses, e := cache.BestTile(p, 0, l, c)
		want, many, f := naiveTile(t, p, 0, l, c)
		same(t, textOf(p, l, c), []any{size, misses, e}, []any{want, many, f})
		count[e]++
		if e == api.OK {
			sizes[slices.Index(l, size)]++
		}
	}
	if min(count[api.OK], count[api.ErrForm], count[api.ErrRule], sizes[0], sizes[1], sizes[2]) < 8 {
		t.Error("too few", count, sizes)
	}
}

func TestBestOrderIsAsNaive(t *testing.T) {
	g := dice(6)
	count := map[string]int{}
	for range 250 {
		p, c := g.program(t), g.cache()
		moves, misses, e := cache.BestOrder(p, c)
		want, many, f := naiveOrder(t, p, c)
		same(t, textOf(p, c), []any{moves, misses, e}, []any{append([]api.Move{}, want...), many, f})
		count[fmt.Sprint(len(moves), " ", int(e))]++
		if e == api.OK && missesOf(t, p, packs(t, p, c.Line), c) < misses {
			t.Error("worse than before", textOf(p, c))
		}
		for _, m := range moves {
			p, _ = shape.Do(p, m)
		}
		if e == api.OK {
			same(t, "misses behind the moves", missesOf(t, p, packs(t, p, c.Line), c), misses)
		}
	}
	if min(count["0 0"], count["1 0"], count["2 0"], count["3 0"], count["0 12"]) < 5 {
		t.Error("too few", count)
	}
}
