package cache_test

import (
	"fmt"
	"slices"
	"strings"
	"sync"
	"testing"

	"warpbeam/api"
	"warpbeam/cache"
)

// rich is a program with a bit of everything, for which other moves than none are best.
const rich = `array b[10, 9];
array c[40];
array a[9];
for i = 0 .. 3 {
  for j = max(0, i - 2) .. (i + 15)/2 {
    if i + j >= 0, 7 >= 0 {
      s: b[j, i] = b[j, i + 1] * 3 + <i - 2*j>;
    }
  }
}
for h = 0 .. 3 {
  for k = 0 .. 5 {
    t: c[6*h + k] = b[k, h] - a[k];
  }
}
`

// richInput is an input without errors for it.
func richInput(t *testing.T) input {
	return input{
		places: places(t, "a 95, b 3 turned, c 110"), cache: api.Cache{Line: 3, Sets: 2, Ways: 2},
		line: 3, most: 5, lines: 3, loop: 2, sizes: []int{3, 2, 4},
	}
}

// summary is the results of all functions.
func summary(p api.Program, x input) string {
	all := results(p, x)
	var l []string
	for name := range all {
		l = append(l, name)
	}
	slices.Sort(l)
	for i, name := range l {
		l[i] += ": " + all[name]
	}
	return strings.Join(l, "\n")
}

// What the summary is made of has no errors.
func TestSummary(t *testing.T) {
	p, x := program(t, rich), richInput(t)
	all := results(p, x)
	for name, got := range all {
		if !strings.HasSuffix(got, " 0]") && got != "0" {
			t.Error(name, got)
		}
	}
	size, misses, e := naiveTile(t, p, x.loop, x.sizes, x.cache)
	same(t, "BestTile", all["BestTile"], []any{size, misses, int(e)})
	moves, misses, e := naiveOrder(t, p, x.cache)
	same(t, "BestOrder", all["BestOrder"], []any{moves, misses, int(e)})
	same(t, "moves", moves, "[{Kind:3 Loop:0 Arg:0} {Kind:2 Loop:2 Arg:0}]")
}

// Z2: arguments are not changed.
func TestArgumentsStay(t *testing.T) {
	p, x := program(t, rich), richInput(t)
	// The places are not in the order of their Starts.
	x.places = places(t, "a 200, b 3 turned, c 110")
	want := fmt.Sprintf("%+v %+v", p, x)
	summary(p, x)
	same(t, "arguments", fmt.Sprintf("%+v %+v", p, x), want)
}

// spoil writes into all of a list, and behind it.
func spoil[T any](l []T, with T) {
	for i := range l {
		l[i] = with
	}
	_ = append(l, with)
}

// Z2: results are new memory: to spoil them changes neither arguments nor later results.
func TestResultsShareNothing(t *testing.T) {
	p, x := program(t, rich), richInput(t)
	before, want := fmt.Sprintf("%+v %+v", p, x), summary(p, x)
	l, _ := cache.Pack(p, 3)
	spoil(l, api.Place{Key: "!"})
	addresses, _ := cache.Addresses(p, x.places)
	misses, _ := cache.Misses(p, x.places, x.cache)
	far, _ := cache.Distances(p, x.places, x.line)
	curve, _ := cache.Curve(p, x.places, x.line, x.most)
	for _, l := range [][]int{addresses, misses, far, curve} {
		spoil(l, -9)
	}
	moves, _, _ := cache.BestOrder(p, x.cache)
	spoil(moves, api.Move{Kind: -9})
	same(t, "arguments", fmt.Sprintf("%+v %+v", p, x), before)
	same(t, "all", summary(p, x), want)
}

// longer is a list with something behind it.
func longer[T any](l []T, with T) []T { return append(slices.Clone(l), with)[:len(l)] }

// behind puts something wrong behind all lists of steps.
func behind(l []api.Step) []api.Step {
	l = longer(l, api.Step{Kind: -9})
	for i, s := range l {
		bad := api.Form{Const: -9_000_000}
		l[i].Body = behind(s.Body)
		l[i].Low, l[i].High = longer(s.Low, api.Bound{Form: bad}), longer(s.High, api.Bound{Form: bad})
		l[i].Conds, l[i].Subs = longer(s.Conds, bad), longer(s.Subs, bad)
		l[i].Expr.Args = longer(s.Expr.Args, api.Expr{Op: -9})
	}
	return l
}

// Z2: what is in the memory of a list after its length is not looked at, and stays.
func TestMemoryBehindLists(t *testing.T) {
	p, x := program(t, rich), richInput(t)
	want := summary(p, x)
	p.Steps = behind(p.Steps)
	p.Arrays = longer(p.Arrays, api.Array{Key: "!"})
	for i, a := range p.Arrays {
		p.Arrays[i].Sizes = longer(a.Sizes, -9)
	}
	x.places, x.sizes = longer(x.places, api.Place{Key: "!"}), longer(x.sizes, -9)
	same(t, "all", summary(p, x), want)
	n := len(p.Arrays)
	same(t, "behind", []any{p.Arrays[:n+1][n].Key, x.places[:4][3].Key, x.sizes[:4][3]}, []any{"!", "!", -9})
	same(t, "behind steps", p.Steps[:3][2].Kind, -9)
}

// Z5: an empty list is as good as none.
func TestEmptyLists(t *testing.T) {
	none, empty := api.Program{}, api.Program{Arrays: []api.Array{}, Steps: []api.Step{}}
	x := richInput(t)
	x.places, x.sizes = nil, nil
	want := summary(none, x)
	same(t, "program", summary(empty, x), want)
	x.places, x.sizes = []api.Place{}, []int{}
	same(t, "all", summary(empty, x), want)
}

// Z1: programs that hold themselves have no end, but calls do.
func TestEndlessValues(t *testing.T) {
	body := []api.Step{{Kind: api.StepIf, Conds: []api.Form{{}}}, {Kind: api.StepIf, Conds: []api.Form{{}}}}
	body[0].Body, body[1].Body = body, body
	for name, got := range results(api.Program{Steps: body}, richInput(t)) {
		same(t, name, got, failed(name, api.ErrLarge))
	}
}

// Z1: lists and names as long as they can be.
func TestLargeValues(t *testing.T) {
	p, x := program(t, rich), richInput(t)
	x.places = slices.Repeat([]api.Place{{Key: "a"}}, 200_000)
	fails(t, "places", p, x, withPlaces, api.ErrOrder)
	x.places = []api.Place{{Key: strings.Repeat("k", 200_000)}}
	fails(t, "places", p, x, withPlaces, api.ErrName)
	x = richInput(t)
	x.sizes = slices.Repeat([]int{2}, 200_000)
	fails(t, "sizes", p, x, "BestTile", api.ErrLarge)
}

// Z1: as many accesses as there can be, to many lines, are followed soon; MaxArrays places are taken.
func TestManyAccesses(t *testing.T) {
	p := program(t, "array a[9999]; array b[9999]; for h = 0 .. 4 { for i = 0 .. 9998 { s: a[i] = b[i] + b[9998 - i] + a[i]; } }")
	l := packs(t, p, 1)
	far, e := cache.Distances(p, l, 1)
	same(t, "Distances", []any{far[0], far[3], far[199_979], e}, []any{-1, 0, 0, api.OK})
	same(t, "most", slices.Max(far), 2*9_999-1)
	// What is set was just read, and in the middle of a round one cell is read twice.
	curve, e := cache.Curve(p, l, 1, 1_000)
	same(t, "Curve", []any{curve[0], e}, []any{199_980 - 5*(9_999+1), api.OK})
	many := 0
	for _, d := range far {
		if d < 0 || d >= 1_000 {
			many++
		}
	}
	same(t, "Curve", curve[999], many)
	n, e := cache.Optimal(p, l, 1, 1_000)
	if n < 2*9_999 || n >= curve[999] || e != api.OK {
		t.Error("Optimal", n, e)
	}
	tally, e := cache.Simulate(p, l, api.Cache{Line: 1, Sets: 1, Ways: 64})
	same(t, "Simulate", []any{tally.Hits + tally.Cold + tally.Room, tally.Clash, tally.Cold, e}, []any{199_980, 0, 2 * 9_999, api.OK})
	text := ""
	for i := range api.MaxArrays {
		text += "array " + string(rune('t'-i)) + "[1000]; "
	}
	l, e = cache.Pack(program(t, text), 64)
	same(t, "Pack", []any{len(l), l[0], l[19], e}, []any{api.MaxArrays, api.Place{Key: "a", Start: 19 * 1024}, api.Place{Key: "t"}, api.OK})
}

// Z1 and Z7: calls of several goroutines do not disturb each other, and always have the same results.
func TestCallsAtOnce(t *testing.T) {
	p, x := program(t, rich), richInput(t)
	want := summary(p, x)
	var group sync.WaitGroup
	for range 6 {
		group.Go(func() {
			for range 4 {
				if got := summary(p, x); got != want {
					t.Errorf("got %s, want %s", short(got), short(want))
				}
			}
		})
	}
	group.Wait()
}
