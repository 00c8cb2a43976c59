package diff_test

import (
	"slices"
	"strconv"
	"testing"

	"warpbeam/api"
	"warpbeam/run"
)

// gen makes programs and grids, the same ones in each run of the tests.
type gen struct {
	state  uint64
	count  int  // statements so far
	linear bool // whether expressions are linear
}

func dice(seed uint64) *gen { return &gen{state: seed} }

func (g *gen) below(n int) int {
	g.state = g.state*6364136223846793005 + 1442695040888963407
	return int(g.state>>33) % n
}

func (g *gen) one(l ...string) string { return l[g.below(len(l))] }

// arrays are those of all programs that are made. Their Keys do not rise.
const arrays = "array c[2, 3]; array a[5]; array b[3, 2]; "

// program makes a small program whose run has no error.
func (g *gen) program(t *testing.T) api.Program {
	t.Helper()
	for {
		g.count = 0
		text := arrays
		for range 2 + g.below(3) {
			text += g.step(nil, 1)
		}
		p := program(t, text)
		if l, e := run.Accesses(p); e == api.OK && len(l) > 5 && len(l) < 90 {
			return p
		}
	}
}

func (g *gen) step(around []string, depth int) string {
	kind := g.below(5)
	switch {
	case depth < 4 && (kind < 2 || depth == 1 && kind < 4):
		name := string(rune('i' + len(around)))
		inner := append(slices.Clone(around), name)
		text := "for " + name + " = " + g.bound("max", around, 0) + " .. " + g.bound("min", around, 2) + " { "
		for range 1 + g.below(4)/2 {
			text += g.step(inner, depth+1)
		}
		return text + "} "
	case depth < 4 && kind == 2:
		return "if " + g.one("1", "0", "-1") + " + " + g.variable(around) + " >= 0, 2 >= 0 { " + g.step(around, depth+1) + "} "
	}
	g.count++
	return "s" + strconv.Itoa(g.count) + ": " + g.place(around) + " = " + g.value(around) + "; "
}

func (g *gen) bound(word string, around []string, near int) string {
	number := strconv.Itoa(near + g.below(2))
	switch g.below(5) {
	case 0:
		return g.variable(around)
	case 1:
		return "(" + g.variable(around) + " + " + strconv.Itoa(2*near) + ")/" + g.one("2", "3")
	case 2:
		return word + "(" + number + ", " + g.variable(around) + " - 1 + " + number + ")"
	}
	return number
}

func (g *gen) variable(around []string) string {
	if len(around) == 0 {
		return "0"
	}
	return g.one(around...)
}

// double is twice a variable.
func (g *gen) double(around []string) string {
	if len(around) == 0 {
		return "3"
	}
	return "2*" + g.one(around...)
}

// place makes a cell that mostly is one of its array.
func (g *gen) place(around []string) string {
	index := func(size int) string {
		switch g.below(5) {
		case 0, 1:
			return strconv.Itoa(g.below(size))
		case 2:
			return strconv.Itoa(size-1) + " - " + g.variable(around)
		}
		return g.variable(around)
	}
	switch g.below(4) {
	case 0:
		return "c[" + index(2) + ", " + index(3) + "]"
	case 1:
		return "b[" + index(3) + ", " + index(2) + "]"
	}
	return "a[" + index(5) + "]"
}

// value makes the expression of a statement.
func (g *gen) value(around []string) string {
	if g.linear {
		return g.line(around, 1)
	}
	return g.expr(around, 1)
}

// number makes numbers that rules often apply to.
func (g *gen) number() string {
	return g.one("0", "0", "1", "1", "2", "1000002", strconv.Itoa(g.below(api.Prime)))
}

// expr makes any expression.
func (g *gen) expr(around []string, depth int) string {
	kind := g.below(10)
	switch depth {
	case 1:
		kind += g.below(10)
	case 5:
		kind = g.below(6)
	}
	switch kind {
	case 0:
		return g.number()
	case 1:
		return "<" + g.one("0", "1", "-3", g.double(around), "1 - "+g.variable(around)) + ">"
	case 2, 3, 4, 5:
		return g.place(around)
	}
	return "(" + g.expr(around, depth+1) + g.one(" + ", " - ", " * ") + g.expr(around, depth+1) + ")"
}

// line makes an expression that is linear.
func (g *gen) line(around []string, depth int) string {
	kind := g.below(6)
	if depth == 5 {
		kind = 0
	}
	switch kind {
	case 0, 1:
		return g.place(around)
	case 2:
		return "(" + g.line(around, depth+1) + " * " + g.factor(around, depth+1) + ")"
	case 3:
		return "(" + g.factor(around, depth+1) + " * " + g.line(around, depth+1) + ")"
	case 4:
		return "(" + g.one("0", "<0>", "(3 - 3)") + g.one(" + ", " - ") + g.line(around, depth+1) + ")"
	}
	return "(" + g.line(around, depth+1) + g.one(" + ", " - ", " - ") + g.line(around, depth+1) + ")"
}

// factor makes an expression without reads.
func (g *gen) factor(around []string, depth int) string {
	switch g.below(5) {
	case 0, 1:
		return g.number()
	case 2, 3:
		return "<" + g.one("1", "-1", g.variable(around), g.variable(around)+" - "+g.double(around)) + ">"
	}
	if depth == 5 {
		return "3"
	}
	return "(" + g.factor(around, depth+1) + g.one(" + ", " - ", " * ") + g.factor(around, depth+1) + ")"
}

// values makes grids of all arrays of a program, mostly with small numbers.
func (g *gen) values(p api.Program) []api.Grid {
	return forAll(p, func(string, int) int {
		if g.below(3) == 0 {
			return g.below(api.Prime)
		}
		return g.below(5)
	})
}

// some are some of the grids.
func (g *gen) some(l []api.Grid) []api.Grid {
	return slices.DeleteFunc(slices.Clone(l), func(api.Grid) bool { return g.below(4) == 0 })
}
