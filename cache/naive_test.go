package cache_test

import (
	"cmp"
	"slices"
	"testing"

	"warpbeam/api"
	"warpbeam/cache"
	"warpbeam/nest"
	"warpbeam/run"
	"warpbeam/shape"
)

// touch is an access to an address, or to a line.
type touch struct {
	at   int
	sets bool
}

// naiveTouches are the accesses of a program to addresses: all indices are counted to find a cell.
func naiveTouches(t *testing.T, p api.Program, l []api.Place) []touch {
	t.Helper()
	all, e := run.Accesses(p)
	if e != api.OK {
		t.Fatal(e)
	}
	addresses := map[api.Spot]int{}
	for _, a := range p.Arrays {
		at := slices.IndexFunc(l, func(x api.Place) bool { return x.Key == a.Key })
		for n, index := range counted(a.Sizes, l[at].Turned) {
			cell, _, _ := nest.Cell(a, index)
			addresses[api.Spot{Array: a.Key, Cell: cell}] = l[at].Start + n
		}
	}
	var out []touch
	for _, a := range all {
		out = append(out, touch{addresses[api.Spot{Array: a.Array, Cell: a.Cell}], a.Sets})
	}
	return out
}

// counted are all indices, counted up with the last one fastest, or the first one.
func counted(sizes []int, turned bool) [][]int {
	sizes = slices.Clone(sizes)
	if turned {
		slices.Reverse(sizes)
	}
	l := [][]int{nil}
	for _, size := range sizes {
		var next [][]int
		for _, x := range l {
			for i := range size {
				next = append(next, append(slices.Clone(x), i))
			}
		}
		l = next
	}
	if turned {
		for _, x := range l {
			slices.Reverse(x)
		}
	}
	return l
}

// naiveLines turns addresses into lines.
func naiveLines(l []touch, line int) []touch {
	var out []touch
	for _, x := range l {
		n := 0
		for (n+1)*line <= x.at {
			n++
		}
		out = append(out, touch{n, x.sets})
	}
	return out
}

// naiveMisses plays a cache with the time of the last use of all lines that are held.
func naiveMisses(lines []touch, sets, ways int) ([]int, int) {
	var missed []int
	back := 0
	last, dirty := map[int]int{}, map[int]bool{}
	for now, x := range lines {
		if _, held := last[x.at]; !held {
			missed = append(missed, now)
			oldest, many := -1, 0
			for line, time := range last {
				if line%sets != x.at%sets {
					continue
				}
				many++
				if oldest < 0 || time < last[oldest] {
					oldest = line
				}
			}
			if many == ways {
				if dirty[oldest] {
					back++
				}
				delete(last, oldest)
				delete(dirty, oldest)
			}
		}
		last[x.at] = now
		if x.sets {
			dirty[x.at] = true
		}
	}
	return missed, back + len(dirty)
}

// naiveTally is what Simulate and Misses should return.
func naiveTally(t *testing.T, p api.Program, l []api.Place, c api.Cache) (api.Tally, []int) {
	t.Helper()
	lines := naiveLines(naiveTouches(t, p, l), c.Line)
	missed, back := naiveMisses(lines, c.Sets, c.Ways)
	inOne, _ := naiveMisses(lines, 1, c.Sets*c.Ways)
	tally := api.Tally{Hits: len(lines) - len(missed), Back: back}
	for _, i := range missed {
		switch {
		case !slices.ContainsFunc(lines[:i], func(x touch) bool { return x.at == lines[i].at }):
			tally.Cold++
		case slices.Contains(inOne, i):
			tally.Room++
		default:
			tally.Clash++
		}
	}
	return tally, missed
}

// naiveDistances counts, for each line, the different ones back to its use before.
func naiveDistances(lines []touch) []int {
	var l []int
	for i, x := range lines {
		others := map[int]bool{}
		k := i - 1
		for k >= 0 && lines[k].at != x.at {
			others[lines[k].at] = true
			k--
		}
		if k < 0 {
			l = append(l, -1)
		} else {
			l = append(l, len(others))
		}
	}
	return l
}

// naiveCurve plays each cache by itself.
func naiveCurve(lines []touch, most int) []int {
	var l []int
	for ways := 1; ways <= most; ways++ {
		missed, _ := naiveMisses(lines, 1, ways)
		l = append(l, len(missed))
	}
	return l
}

// naiveOptimal tries all choices: it knows the fewest misses with which each set of lines (as bits) can be held. The lines are from 0 to 62.
func naiveOptimal(lines []touch, room int) int {
	states := map[uint64]int{0: 0}
	for _, x := range lines {
		bit := uint64(1) << x.at
		next := map[uint64]int{}
		add := func(held uint64, misses int) {
			if old, found := next[held]; !found || misses < old {
				next[held] = misses
			}
		}
		for held, misses := range states {
			many := 0
			for rest := held; rest > 0; rest &= rest - 1 {
				many++
			}
			switch {
			case held&bit > 0:
				add(held, misses)
			case many < room:
				add(held|bit, misses+1)
			default:
				for rest := held; rest > 0; rest &= rest - 1 {
					add(held&^(rest&-rest)|bit, misses+1)
				}
			}
		}
		states = next
	}
	fewest := len(lines)
	for _, misses := range states {
		fewest = min(fewest, misses)
	}
	return fewest
}

// naiveChoice is a list of moves and how many misses there are behind it.
type naiveChoice struct {
	moves  []api.Move
	misses int
}

// naiveChoices are all lists of at most so many moves, in the order in which they are chosen.
func naiveChoices(t *testing.T, p api.Program, c api.Cache, most int) []naiveChoice {
	t.Helper()
	var all []naiveChoice
	var add func(p api.Program, moves []api.Move)
	add = func(p api.Program, moves []api.Move) {
		_, missed := naiveTally(t, p, packs(t, p, c.Line), c)
		all = append(all, naiveChoice{moves, len(missed)})
		if len(moves) == most || len(all) > 200 {
			return
		}
		l, e := shape.Moves(p)
		if e != api.OK {
			t.Fatal(e)
		}
		for _, m := range l {
			q, e := shape.Do(p, m)
			if e != api.OK {
				t.Fatal(e)
			}
			add(q, append(slices.Clone(moves), m))
		}
	}
	add(p, nil)
	slices.SortStableFunc(all, func(a, b naiveChoice) int {
		return cmp.Or(
			cmp.Compare(a.misses, b.misses),
			cmp.Compare(len(a.moves), len(b.moves)),
			slices.CompareFunc(a.moves, b.moves, func(x, y api.Move) int {
				return cmp.Or(cmp.Compare(x.Loop, y.Loop), cmp.Compare(x.Kind, y.Kind), cmp.Compare(x.Arg, y.Arg))
			}),
		)
	})
	return all
}

// naiveOrder is what BestOrder should return.
func naiveOrder(t *testing.T, p api.Program, c api.Cache) ([]api.Move, int, api.Errno) {
	t.Helper()
	all := naiveChoices(t, p, c, 3)
	if len(all) > 200 {
		return nil, 0, api.ErrFull
	}
	return all[0].moves, all[0].misses, api.OK
}

// naiveTile is what BestTile should return.
func naiveTile(t *testing.T, p api.Program, n int, sizes []int, c api.Cache) (int, int, api.Errno) {
	t.Helper()
	var best []int
	for _, size := range sizes {
		q, e := shape.Tile(p, n, size, "tile_o", "tile_i")
		if e != api.OK {
			return 0, 0, e
		}
		_, missed := naiveTally(t, q, packs(t, q, c.Line), c)
		best = append(best, len(missed))
	}
	at := slices.Index(best, slices.Min(best))
	return sizes[at], best[at], api.OK
}

// counts are the cache's results that the naive ones are compared with.
func counts(t *testing.T, p api.Program, l []api.Place, c api.Cache) (api.Tally, []int) {
	t.Helper()
	tally, e := cache.Simulate(p, l, c)
	missed, f := cache.Misses(p, l, c)
	if e != api.OK || f != api.OK {
		t.Fatal(e, f)
	}
	return tally, missed
}
