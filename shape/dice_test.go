package shape_test

import (
	"slices"
	"strconv"
	"strings"
	"testing"

	"warpbeam/api"
	"warpbeam/nest"
)

// gen makes programs, the same ones in each run of the tests.
type gen struct {
	state uint64
	count int // statements so far
}

func dice(seed uint64) *gen { return &gen{state: seed} }

func (g *gen) below(n int) int {
	g.state = g.state*6364136223846793005 + 1442695040888963407
	return int(g.state>>33) % n
}

func (g *gen) one(l ...string) string { return l[g.below(len(l))] }

// number is a number that stands with its sign.
func (g *gen) number(low, high int) string {
	n := low + g.below(high-low+1)
	if n < 0 {
		return strconv.Itoa(n)
	}
	return "+" + strconv.Itoa(n)
}

// program makes a small program, whose indices mostly lie within its arrays, and whose loops often have the forms that changes need.
func (g *gen) program(t *testing.T) api.Program {
	g.count = 0
	text := "array b[3, 4]; array c[5]; array a[6]; "
	for range 1 + g.below(2) {
		text += g.step(nil, 1)
	}
	return program(t, text)
}

func (g *gen) step(around []string, depth int) string {
	kind := g.below(6)
	if depth == 1 && kind > 2 {
		kind = 0
	}
	switch {
	case depth < 4 && kind < 2:
		return g.loops(around, depth)
	case depth < 4 && kind == 2:
		return "if " + g.form(around, -1, 3) + " >= 0 { " + g.body(around, depth) + "} "
	}
	g.count++
	return "s" + strconv.Itoa(g.count) + ": " + g.place(around) + " = " + g.expr(around, 1) + "; "
}

// loops makes a loop, or two of them with the same bounds.
func (g *gen) loops(around []string, depth int) string {
	bounds := " = " + g.bounds("max", around, -1, 1) + " .. " + g.bounds("min", around, 1, 4) + " { "
	text := ""
	for range 1 + g.below(5)/3 {
		name := g.fresh(around)
		inner := append(slices.Clone(around), name)
		body := ""
		if depth < 3 && g.below(3) == 0 {
			// A loop by itself makes this one tight.
			only := g.fresh(inner)
			body = "for " + only + bounds + g.step(append(slices.Clone(inner), only), depth+2) + "} "
		} else {
			body = g.body(inner, depth)
		}
		text += "for " + name + bounds + body + "} "
	}
	return text
}

// fresh is the name of a loop that may stand there. Few ones are in use, so they often are those of loops nearby.
func (g *gen) fresh(around []string) string {
	at := g.below(4) / 3
	for slices.Contains(around, string(rune('i'+at))) {
		at++
	}
	return string(rune('i' + at))
}

func (g *gen) body(around []string, depth int) string {
	s := ""
	for range 1 + g.below(3) {
		s += g.step(around, depth+1)
	}
	return s
}

func (g *gen) bounds(word string, around []string, low, high int) string {
	one := func() string {
		if g.below(5) == 0 {
			return "(" + g.form(around, 2*low, 2*high) + ")/" + g.one("2", "3")
		}
		if g.below(3) > 0 {
			return g.number(low, high)
		}
		return g.form(around, low, high)
	}
	if g.below(6) == 0 {
		return word + "(" + one() + ", " + one() + ")"
	}
	return one()
}

func (g *gen) form(around []string, low, high int) string {
	s := g.number(low, high)
	for _, name := range around {
		switch g.below(5) {
		case 0, 1:
			s += "+" + name
		case 2:
			s += "-" + g.one("", "2*") + name
		}
	}
	return s
}

// index makes a form whose value mostly is from 0 to size - 1.
func (g *gen) index(around []string, size int) string {
	if len(around) == 0 || g.below(4) == 0 {
		return g.number(0, size-1)
	}
	name := around[g.below(len(around))]
	if g.below(3) == 0 {
		return g.number(size/2, size-1) + "-" + name
	}
	return name + g.number(0, 1)
}

func (g *gen) place(around []string) string {
	switch g.below(4) {
	case 0:
		return "a[" + g.index(around, 6) + "]"
	case 1:
		return "c[" + g.index(around, 5) + "]"
	}
	return "b[" + g.index(around, 3) + ", " + g.index(around, 4) + "]"
}

func (g *gen) expr(around []string, depth int) string {
	kind := g.below(6)
	if depth == 3 {
		kind = g.below(3)
	}
	switch kind {
	case 0:
		return strconv.Itoa(g.below(api.Prime))
	case 1, 2:
		return "<" + g.form(around, -5, 5) + ">"
	case 3:
		return g.place(around)
	}
	x := g.expr(around, depth+1)
	return "(" + x + g.one(" + ", " - ", " * ") + g.expr(around, depth+1) + ")"
}

// grids makes grids for a program, with some arrays left out.
func (g *gen) grids(p api.Program) []api.Grid {
	cells := map[string]int{}
	for _, a := range p.Arrays {
		cells[a.Key], _ = nest.Cells(api.Program{Arrays: []api.Array{a}})
	}
	var l []api.Grid
	for _, key := range strings.Fields("a b c") {
		if g.below(5) == 0 {
			continue
		}
		x := api.Grid{Key: key}
		for range cells[key] {
			x.Values = append(x.Values, g.below(api.Prime))
		}
		l = append(l, x)
	}
	return l
}
