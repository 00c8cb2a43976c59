package house_test

import (
	"fmt"
	"slices"
	"strings"

	"warpbeam/api"
)

// gen makes notes and lines, the same ones in each run of the tests.
type gen struct{ state uint64 }

func dice(seed uint64) *gen { return &gen{state: seed} }

func (g *gen) below(n int) int {
	g.state = g.state*6364136223846793005 + 1442695040888963407
	return int(g.state>>33) % n
}

func (g *gen) one(l ...string) string { return l[g.below(len(l))] }

func (g *gen) number(low, high int) int { return low + g.below(high-low+1) }

// text makes a small program, with two arrays. Mostly its run has no error.
func (g *gen) text() string {
	text := "array a[9];\narray c[7, 7];\n"
	for range 1 + g.below(3) {
		text += g.loop()
	}
	switch g.below(6) {
	case 0:
		return strings.TrimSuffix(text, "\n")
	case 1:
		return "\n# " + g.one("x", "|", "é\xff") + "\n" + text + "\n\n"
	case 2:
		return g.one("", "#", "array a[9];\n", "array a[2]; s0: a[2] = 1;")
	}
	return text
}

func (g *gen) loop() string {
	name, key := g.one("i", "j"), fmt.Sprint("s", g.below(1_000_000))
	if g.below(2) == 0 {
		return fmt.Sprintf("for %s = 1 .. %d {\n  %s: a[%s] = a[%s] + %s;\n}\n", name, 2+g.below(2), key, name, g.one(name, name+" - 1", "0"), g.one("1", "<"+name+">"))
	}
	around := "c[" + g.one("h", "h - 1") + ", " + name + g.one("", " + 1", " - 1") + "]"
	return fmt.Sprintf("for h = 1 .. 3 {\n  for %s = 1 .. 3 {\n    %s: c[h, %s] = %s;\n    %s_b: a[h] = %s;\n  }\n}\n", name, key, name, around, key, g.one("2", "c[h, 0]"))
}

// move makes a move that can perhaps be done.
func (g *gen) move() api.Move {
	m := api.Move{Kind: g.number(api.MoveExchange, api.MoveSkew), Loop: g.below(3)}
	if m.Kind >= api.MoveSplit || g.below(9) == 0 {
		m.Arg = g.number(-2, 2)
	}
	return m
}

// note makes a note of a desk; No and At are left out.
func (g *gen) note(desk string) api.Note {
	n := api.Note{Desk: desk, Name: g.one("p", "p", "q", "r"), Kind: api.NoteMove}
	switch g.below(12) {
	case 0:
		n.Kind = api.NoteDrop
	case 1, 2, 3:
		n.Kind, n.Text = api.NotePut, g.text()
	default:
		n.Of, n.Move = g.one("p", "p", "q", "r"), g.move()
	}
	return n
}

// notes makes right notes of several desks, many of them at the same moments.
func (g *gen) notes() []api.Note {
	var l []api.Note
	for _, desk := range []string{"d", "d-1", "d0", "d_a", "e"} {
		no, at := 0, g.below(3)
		for range g.below(6) {
			no += 1 + g.below(2)
			at += g.below(3)
			n := g.note(desk)
			n.No, n.At = no, at
			l = append(l, n)
		}
	}
	return l
}

// some are some of the notes.
func (g *gen) some(l []api.Note) []api.Note {
	return slices.DeleteFunc(slices.Clone(l), func(api.Note) bool { return g.below(3) == 0 })
}

// line makes a line of a script, mostly one without an error.
func (g *gen) line(time int) string {
	desk, name := g.one("d", "d-1", "e", "D"), g.one("p", "p", "p", "q", "q", "r", "P")
	switch g.below(24) {
	case 0:
		return fmt.Sprint("at ", time+g.number(-1, 2))
	case 1, 2:
		return "put " + desk + " " + name
	case 3, 4, 5, 6:
		m := g.move()
		word := g.one("exchange", "reverse", "fuse", "split", "shift", "skew", "cut")
		return fmt.Sprintf("move %s %s %s %s %d %d", desk, name, g.one("p", "p", "q"), word, m.Loop, m.Arg)
	case 7:
		return "drop " + desk + " " + name
	case 8, 9:
		return "names"
	case 10:
		return "grids"
	case 11:
		return "> a " + strings.TrimSuffix(strings.Repeat(g.one("1", "22", "1000002")+" ", 9), " ")
	case 12:
		return fmt.Sprintf("cache %s %d %d %d", name, g.number(0, 4), g.number(1, 3), g.number(1, 2))
	case 13:
		return fmt.Sprintf("code %s %d", name, g.number(0, 4))
	case 14:
		return g.one("", " ", "at", "names 1", "put d", "move d p p shift 0", "show  p", "run p ", ">", "> ", "cache p 1 1", "at 01", "hello", "names\n", "> x\ny")
	}
	return g.one("show", "run", "moves", "free", "waves", "derive", "run", "show") + " " + name
}
