package cache_test

import (
	"slices"
	"strconv"
	"strings"
	"testing"

	"warpbeam/api"
	"warpbeam/run"
)

// gen makes programs, places and caches, the same ones in each run of the tests.
type gen struct {
	state uint64
	count int // statements so far
}

func dice(seed uint64) *gen { return &gen{state: seed} }

func (g *gen) below(n int) int {
	g.state = g.state*6364136223846793005 + 1442695040888963407
	return int(g.state>>33) % n
}

func (g *gen) one(l ...string) string { return l[g.below(len(l))] }

// arrays are those of all programs that are made. Their Keys do not rise.
const arrays = "array c[3, 2, 3]; array a[7]; array b[4, 5]; "

// program makes a small program whose run has no error.
func (g *gen) program(t *testing.T) api.Program {
	t.Helper()
	for {
		g.count = 0
		text := arrays
		for range 1 + g.below(3) {
			text += g.step(nil, 1)
		}
		p := program(t, text)
		if l, e := run.Accesses(p); e == api.OK && len(l) > 3 && len(l) < 120 {
			return p
		}
	}
}

func (g *gen) step(around []string, depth int) string {
	kind := g.below(5)
	if depth < 4 && (kind < 3 || depth == 1) {
		return g.loops(around, depth)
	}
	if depth < 4 && kind == 3 {
		return "if " + g.one("1", "0", "-1") + " + " + g.variable(around) + " >= 0 { " + g.step(around, depth+1) + "} "
	}
	g.count++
	return "s" + strconv.Itoa(g.count) + ": " + g.place(around) + " = " + g.place(around) + g.one(" + 1", " - "+g.place(around), "") + "; "
}

// loops makes one loop, or two ones that can perhaps be fused.
func (g *gen) loops(around []string, depth int) string {
	bounds := " = " + strconv.Itoa(g.below(2)) + " .. " + strconv.Itoa(1+g.below(3)) + " { "
	text := ""
	for range 1 + g.below(4)/3 {
		name := string(rune('i' + len(around)))
		inner := append(slices.Clone(around), name)
		text += "for " + name + bounds
		for range 1 + g.below(4)/3 {
			text += g.step(inner, depth+1)
		}
		text += "} "
	}
	return text
}

func (g *gen) variable(around []string) string {
	if len(around) == 0 {
		return "0"
	}
	return g.one(around...)
}

// place makes a cell that mostly is one of its array.
func (g *gen) place(around []string) string {
	index := func(size int) string {
		switch g.below(5) {
		case 0:
			return strconv.Itoa(g.below(size))
		case 1:
			return strconv.Itoa(size-1) + " - " + g.variable(around)
		}
		return g.variable(around)
	}
	switch g.below(4) {
	case 0:
		return "a[" + index(7) + "]"
	case 1:
		return "c[" + index(3) + ", " + index(2) + ", " + index(3) + "]"
	}
	return "b[" + index(4) + ", " + index(5) + "]"
}

// tight makes two loops that can often be tiled.
func (g *gen) tight(t *testing.T) api.Program {
	t.Helper()
	around := func() string { return g.one("b[i, j]", "b[i, j]", "b[i - 1, j]", "b[i, j - 1]", "b[i - 1, j + 1]") }
	inner := g.one("a[j]", "a[i]", "c[0, 1, 2]", "b[j, i]", "b[j, j]")
	return program(t, "array b[9, 9]; array a[8]; array c[3, 2, 3]; for i = 1 .. "+strconv.Itoa(3+g.below(3))+" { for j = "+g.one("1", "1", "1", "i")+" .. 6 { s: b[i, j] = "+around()+" + "+inner+"; } }")
}

// cache makes a cache that is small, so that programs that are small miss in it.
func (g *gen) cache() api.Cache {
	return api.Cache{Line: 1 + g.below(5), Sets: 1 + g.below(4), Ways: 1 + g.below(3)}
}

// places makes places of all arrays of a program, in any order and with gaps.
func (g *gen) places(p api.Program) []api.Place {
	l := slices.Clone(p.Arrays)
	for i := range l {
		k := g.below(i + 1)
		l[i], l[k] = l[k], l[i]
	}
	var out []api.Place
	at := 0
	for _, a := range l {
		at += g.below(3)
		out = append(out, api.Place{Key: a.Key, Start: at, Turned: g.below(2) == 0})
		for n := 1; len(a.Sizes) > 0; a.Sizes = a.Sizes[1:] {
			n *= a.Sizes[0]
			if len(a.Sizes) == 1 {
				at += n
			}
		}
	}
	slices.SortFunc(out, func(x, y api.Place) int { return strings.Compare(x.Key, y.Key) })
	return out
}
