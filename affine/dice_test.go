package affine_test

import (
	"strconv"
	"testing"

	"warpbeam/api"
)

// gen makes sets and programs, the same ones in each run of the tests.
type gen struct{ state uint64 }

func dice(seed uint64) *gen { return &gen{state: seed} }

func (g *gen) below(n int) int {
	g.state = g.state*6364136223846793005 + 1442695040888963407
	return int(g.state>>33) % n
}

// from is a number from low to high.
func (g *gen) from(low, high int) int { return low + g.below(high-low+1) }

// set makes a small set; names of its variables seldom rise.
func (g *gen) set() api.Set {
	names := []string{"k", "b", "z", "i"}[:g.below(5)]
	var s api.Set
	for _, name := range names {
		low := g.from(-4, 2)
		s.Sides = append(s.Sides, api.Side{Name: name, Low: low, High: low + g.from(0, 4) - g.below(12)/11*5})
	}
	for range g.below(5) {
		s.Conds = append(s.Conds, g.form(s, 3))
	}
	return s
}

// form makes a form of the variables of a set, with coefficients up to most.
func (g *gen) form(s api.Set, most int) api.Form {
	f := api.Form{Const: g.from(-3, 8)}
	for _, name := range []string{"b", "i", "k", "z"} {
		coef := g.from(-most, most)
		if coef != 0 && g.below(3) > 0 && hasName(s, name) {
			f.Terms = append(f.Terms, api.Term{Name: name, Coef: coef})
		}
	}
	return f
}

func hasName(s api.Set, name string) bool {
	for _, x := range s.Sides {
		if x.Name == name {
			return true
		}
	}
	return false
}

// program makes a small program whose statements s1, s2 .. have loops and conditions around them; it also says how many they are.
func (g *gen) program(t *testing.T) (api.Program, int) {
	count := 0
	text := "array a[1]; "
	for range 1 + g.below(3) {
		text += g.step(nil, 1, &count)
	}
	return program(t, text), count
}

func (g *gen) step(around []string, depth int, count *int) string {
	kind := g.below(4)
	switch {
	case depth < 6 && kind < 2:
		name := []string{"dx", "bx", "cx", "ax", "ex"}[len(around)]
		low, high := g.ends("max", around, -3, 1), g.ends("min", around, 0, 4)
		inner := append(append([]string{}, around...), name)
		return "for " + name + " = " + low + " .. " + high + " { " + g.body(inner, depth, count)
	case depth < 6 && kind == 2:
		return "if " + g.sum(around, -1, 4) + " >= 0, " + g.sum(around, 0, 5) + " >= 0 { " + g.body(around, depth, count)
	}
	*count++
	return "s" + strconv.Itoa(*count) + ": a[0] = 1; "
}

func (g *gen) body(around []string, depth int, count *int) string {
	s := ""
	for range 1 + g.below(2) {
		s += g.step(around, depth+1, count)
	}
	return s + "} "
}

func (g *gen) ends(word string, around []string, low, high int) string {
	one := func() string {
		if div := g.from(1, 3); div > 1 {
			return "(" + g.sum(around, div*low, div*high) + ")/" + strconv.Itoa(div)
		}
		return g.sum(around, low, high)
	}
	if g.below(3) == 0 {
		return word + "(" + one() + ", " + one() + ")"
	}
	return one()
}

func (g *gen) sum(around []string, low, high int) string {
	s := strconv.Itoa(g.from(low, high))
	for _, name := range around {
		switch g.below(6) {
		case 0, 1:
			s += " + " + name
		case 2:
			s += " - " + strconv.Itoa(g.from(1, 3)) + "*" + name
		}
	}
	return s
}
