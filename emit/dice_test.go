package emit_test

import (
	"slices"
	"strconv"
	"strings"
	"testing"

	"warpbeam/api"
	"warpbeam/nest"
	"warpbeam/run"
)

// gen makes programs and code, the same ones in each run of the tests.
type gen struct {
	state uint64
	count int      // statements so far
	sets  []string // the arrays that they set
	reads []string // those that they read
}

func dice(seed uint64) *gen { return &gen{state: seed} }

func (g *gen) below(n int) int {
	g.state = g.state*6364136223846793005 + 1442695040888963407
	return int(g.state>>33) % n
}

func (g *gen) one(l ...string) string { return l[g.below(len(l))] }

// number is a number that stands with its sign.
func (g *gen) number(low, high int) string {
	n := low + g.below(high-low+1)
	if n < 0 {
		return strconv.Itoa(n)
	}
	return "+" + strconv.Itoa(n)
}

// declared are the arrays of these programs; they do not stand in the order of their Keys.
const declared = "array c[3, 5, 2]; array b[6, 9]; array a[20]; "

// program makes a small program, whose indices mostly lie within its arrays, and whose loops often can be done with vectors.
func (g *gen) program(t *testing.T) api.Program {
	g.count = 0
	g.sets, g.reads = strings.Fields("a a b c"), strings.Fields("a a b c")
	// If all that is set is not read, there are fewer dependences.
	if g.below(2) == 0 {
		g.sets, g.reads = g.sets[2:], g.reads[:2]
	}
	text := declared
	for range 1 + g.below(2) {
		text += g.step(nil, 1)
	}
	return program(t, text)
}

func (g *gen) step(around []string, depth int) string {
	kind := g.below(7)
	if depth == 1 && kind > 2 {
		kind = 0
	}
	switch {
	case depth < 4 && kind < 3:
		name := string(rune('i' + len(around)))
		inner := append(slices.Clone(around), name)
		return "for " + name + " = " + g.bounds("max", around, 0, 2) + " .. " + g.bounds("min", around, 2, 9) + " { " + g.body(inner, depth) + "} "
	case depth < 4 && kind == 3:
		return "if " + g.form(around, -1, 3) + " >= 0" + g.one("", ", "+g.form(around, 0, 5)+" >= 0") + " { " + g.body(around, depth) + "} "
	}
	return g.statement(around)
}

func (g *gen) body(around []string, depth int) string {
	s := ""
	if g.below(2) == 0 {
		for range 1 + g.below(3) {
			s += g.statement(around)
		}
		return s
	}
	for range 1 + g.below(2) {
		s += g.step(around, depth+1)
	}
	return s
}

func (g *gen) statement(around []string) string {
	g.count++
	return "s" + strconv.Itoa(g.count) + ": " + g.place(around, g.sets) + " = " + g.expr(around, 1) + "; "
}

func (g *gen) bounds(word string, around []string, low, high int) string {
	one := func() string {
		switch g.below(6) {
		case 0:
			return "(" + g.form(around, 2*low-1, 2*high+1) + ")/" + g.one("2", "3")
		case 1:
			return g.form(around, low, high)
		}
		return g.number(low, high)
	}
	if g.below(5) == 0 {
		return word + "(" + one() + ", " + one() + g.one("", ", "+one()) + ")"
	}
	return one()
}

func (g *gen) form(around []string, low, high int) string {
	s := g.number(low, high)
	for _, name := range around {
		switch g.below(6) {
		case 0, 1:
			s += "+" + name
		case 2:
			s += "-" + g.one("", "2*", "3*") + name
		}
	}
	return s
}

// index makes a form whose value mostly is from 0 to size - 1.
func (g *gen) index(around []string, size int) string {
	if len(around) == 0 || g.below(8) == 0 {
		return g.number(0, size-1)
	}
	// The innermost loop is taken more often than others.
	name := around[max(g.below(len(around)), g.below(len(around)))]
	switch g.below(5) {
	case 0:
		return strconv.Itoa(size-1) + " - " + name
	case 1:
		return name + g.number(-1, max(0, size-9))
	case 2:
		return g.one("2*", "") + name
	}
	return name
}

// place is a cell of one of some arrays.
func (g *gen) place(around, keys []string) string {
	switch g.one(keys...) {
	case "c":
		return "c[" + g.index(around, 3) + ", " + g.index(around, 5) + ", " + g.index(nil, 2) + "]"
	case "b":
		return "b[" + g.index(around, 6) + ", " + g.index(around, 9) + "]"
	}
	return "a[" + g.index(around, 20) + "]"
}

func (g *gen) expr(around []string, depth int) string {
	kind := g.below(7)
	if depth == 3 {
		kind = g.below(4)
	}
	switch kind {
	case 0:
		return strconv.Itoa(g.below(3) * (1 + g.below(api.Prime/2)))
	case 1:
		return "<" + g.form(around, -5, 5) + ">"
	case 2, 3:
		return g.place(around, g.reads)
	}
	x := g.expr(around, depth+1)
	return "(" + x + g.one(" + ", " - ", " * ") + g.expr(around, depth+1) + ")"
}

// grids makes grids for a program, with some arrays left out.
func (g *gen) grids(p api.Program) []api.Grid {
	var l []api.Grid
	for _, key := range strings.Fields("a b c") {
		if g.below(5) == 0 {
			continue
		}
		x := api.Grid{Key: key}
		for _, a := range p.Arrays {
			if a.Key == key {
				n, _ := nest.Cells(api.Program{Arrays: []api.Array{a}})
				for range n {
					x.Values = append(x.Values, g.below(api.Prime))
				}
			}
		}
		l = append(l, x)
	}
	return l
}

// eachProgram calls test with so many programs that can be run.
func eachProgram(t *testing.T, seed uint64, many int, test func(g *gen, p api.Program)) {
	t.Helper()
	g := dice(seed)
	tries := 0
	for many > 0 {
		tries++
		p := g.program(t)
		l, e := run.Instances(p)
		if _, f := run.Accesses(p); e != api.OK || f != api.OK || len(l) == 0 || len(l) > 600 {
			continue
		}
		many--
		test(g, p)
	}
	if tries > 100_000 {
		t.Error("too few programs can be run", tries)
	}
}
