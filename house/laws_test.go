package house_test

import (
	"fmt"
	"slices"
	"strings"
	"testing"

	"warpbeam/api"
	"warpbeam/house"
	"warpbeam/nest"
	"warpbeam/run"
	"warpbeam/shape"
)

// P10.2: at each moment the names are what following all notes makes of them.
func TestProgramsAreAsNaive(t *testing.T) {
	g := dice(1)
	longest, many := 0, 0
	for range 400 {
		l := g.notes()
		for at := range 14 {
			now := naive(l, at)
			var names []string
			for _, name := range []string{"p", "q", "r"} {
				w, is := now[name]
				p, found, e := house.Get(l, name, at)
				same(t, "Get", []any{p, found, e}, []any{w.program, is, api.OK})
				same(t, "Way", gone(l, name, at), fmt.Sprint(w.way, 0))
				if is {
					names = append(names, name)
					many++
				}
				longest = max(longest, len(w.way))
			}
			same(t, "Names", named(l, at), fmt.Sprint(names, 0))
		}
	}
	if longest < 5 || many < 3_000 {
		t.Error("too little", longest, many)
	}
}

// P10.1: checks are as naive ones of notes that are nearly right.
func TestChecksAreAsNaive(t *testing.T) {
	g := dice(2)
	count := map[api.Errno]int{}
	for range 6_000 {
		l := g.notes()
		if len(l) == 0 {
			continue
		}
		for range 1 + g.below(2) {
			g.spoil(&l[g.below(len(l))])
		}
		want := checkNotes(l)
		same(t, fmt.Sprint(l), house.CheckNotes(l), want)
		count[want]++
	}
	for _, e := range []api.Errno{api.OK, api.ErrArg, api.ErrForm, api.ErrKind, api.ErrName, api.ErrSyntax, api.ErrOrder} {
		if count[e] < 50 {
			t.Error("too few", e, count)
		}
	}
}

// spoil changes a field of a note.
func (g *gen) spoil(n *api.Note) {
	switch g.below(11) {
	case 0:
		n.Desk = g.one("d", "D", "", "e", "d_", "9", "d-", strings.Repeat("d", 40), strings.Repeat("d", 41))
	case 1:
		n.No = g.number(-1, 5)
	case 2:
		n.At = g.number(-1, 9)
	case 3:
		n.Kind = g.number(0, 4)
	case 4:
		n.Name = g.one("p", "P", "", "for", "d-1", "x_1", strings.Repeat("d", 40), strings.Repeat("d", 41))
	case 5:
		n.Of = g.one("p", "P", "", "for", "d-1", "x_1")
	case 6:
		n.Text = g.one("", "?", "array", "array a[0];", "array b[2];")
	case 7:
		n.Move.Kind = g.number(-1, 7)
	case 8:
		n.Move.Loop = g.number(-1, 301)
	case 9:
		n.Move.Arg = g.number(-1_000_100, 1_000_100)
	}
}

// What follows: merging is the same in any order, and nothing is changed by notes that are known.
func TestMergingIsTheSameInAnyOrder(t *testing.T) {
	g := dice(3)
	for range 1_500 {
		l := g.notes()
		a, b, c := g.some(l), g.some(l), g.some(l)
		ab, e := house.Merge(a, b)
		same(t, "error", e, api.OK)
		ba, e := house.Merge(b, a)
		same(t, "error", e, api.OK)
		same(t, "both", ba, ab)
		abc, _ := house.Merge(ab, c)
		bc, _ := house.Merge(b, c)
		cab, _ := house.Merge(bc, a)
		same(t, "three", cab, abc)
		all, e := house.Merge(abc, l)
		same(t, "all", []any{all, e}, []any{l, api.OK})
		all, e = house.Merge(l, abc)
		same(t, "all", []any{all, e}, []any{l, api.OK})
		same(t, "as naive", abc, slices.DeleteFunc(slices.Clone(l), func(n api.Note) bool {
			return !slices.Contains(a, n) && !slices.Contains(b, n) && !slices.Contains(c, n)
		}))
	}
}

// Merging notes with errors of any kind: those of the lists, conflicts, and those of what is merged.
func TestErrorsOfMergeAreAsNaive(t *testing.T) {
	g := dice(4)
	count := map[api.Errno]int{}
	for range 5_000 {
		l := g.notes()
		a, b := g.some(l), g.some(l)
		if len(a) > 0 && g.below(2) == 0 {
			g.spoil(&a[g.below(len(a))])
		}
		if len(b) > 0 && g.below(3) == 0 {
			g.spoil(&b[g.below(len(b))])
		}
		want, e := naiveMerge(a, b)
		m, got := house.Merge(a, b)
		same(t, fmt.Sprint(a, b), []any{m, got}, []any{want, e})
		count[e]++
	}
	if count[api.OK] < 500 || count[api.ErrConflict] < 100 || count[api.ErrOrder] < 100 {
		t.Error("too few", count)
	}
}

func naiveMerge(a, b []api.Note) ([]api.Note, api.Errno) {
	for _, l := range [][]api.Note{a, b} {
		if e := checkNotes(l); e != api.OK {
			return nil, e
		}
	}
	l := slices.Clone(a)
	for _, n := range b {
		known := false
		for _, x := range a {
			if x == n {
				known = true
			} else if x.Desk == n.Desk && x.No == n.No {
				return nil, api.ErrConflict
			}
		}
		if !known {
			l = append(l, n)
		}
	}
	slices.SortFunc(l, func(a, b api.Note) int {
		if a.Desk != b.Desk {
			return strings.Compare(a.Desk, b.Desk)
		}
		return a.No - b.No
	})
	if e := checkNotes(l); e != api.OK {
		return nil, e
	}
	return l, api.OK
}

// What follows: a program that was made by moves computes what the one that was put computes, on all grids; and what Way tells, followed by hand, gives the same program.
func TestWaysAreWhatPrograms(t *testing.T) {
	g := dice(5)
	kinds := [api.MoveSkew + 1]int{}
	for range 3_000 {
		l := g.notes()
		names, _ := house.Names(l, 20)
		for _, name := range names {
			p, _, _ := house.Get(l, name, 20)
			way, _ := house.Way(l, name, 20)
			first, _, _ := nest.Read(l[way[0]].Text)
			q := first
			for _, i := range way[1:] {
				var e api.Errno
				q, e = shape.Do(q, l[i].Move)
				same(t, "Do", e, api.OK)
				kinds[l[i].Move.Kind]++
			}
			same(t, "by hand", q, p)
			same(t, "name", l[way[len(way)-1]].Name, name)
			if _, e := run.Run(first, nil); e != api.OK {
				continue
			}
			at, found, e := run.Differ(first, p, [][]api.Grid{nil, g.grids(first), g.grids(first)})
			same(t, textOf(p), []any{at, found, e}, []any{0, false, api.OK})
		}
	}
	for _, many := range kinds[1:] {
		if many < 30 {
			t.Error("too few moves", kinds)
		}
	}
}

// grids makes values of all arrays of a program.
func (g *gen) grids(p api.Program) []api.Grid {
	out, _ := run.Run(api.Program{Arrays: p.Arrays}, nil)
	for _, x := range out {
		for i := range x.Values {
			x.Values[i] = g.below(api.Prime)
		}
	}
	return out
}

// P10.3: notes are read as they were written, but for line feeds at the ends of programs.
func TestTextsAreReadBack(t *testing.T) {
	g := dice(6)
	for range 2_000 {
		l := g.notes()
		text, e := house.Text(l)
		same(t, "Text", e, api.OK)
		for i := range l {
			if s := l[i].Text; s != "" && !strings.HasSuffix(s, "\n") {
				l[i].Text += "\n"
			}
		}
		back, line, e := house.Read(text)
		same(t, text, []any{back, line, e}, []any{l, 0, api.OK})
		again, e := house.Text(back)
		same(t, text, []any{again, e}, []any{text, api.OK})
	}
}

// Z10: what is read is what would be written, whatever is changed in a text.
func TestReadAcceptsNothingElse(t *testing.T) {
	g := dice(7)
	count := map[api.Errno]int{}
	for range 20_000 {
		text, _ := house.Text(g.notes())
		if text == "" {
			continue
		}
		for range 1 + g.below(2) {
			at := g.below(len(text))
			piece := g.one("", "", "\n", " ", "|", "0", "1", "-", "d", "put", "\n|", "#")
			text = text[:at] + piece + text[min(len(text), at+g.below(3)):]
			if text == "" {
				break
			}
		}
		l, line, e := house.Read(text)
		count[e]++
		if e != api.OK {
			same(t, text, len(l), 0)
			if e != api.ErrSyntax && line != 0 {
				t.Errorf("%q: %d, %d", text, line, e)
			}
			continue
		}
		again, e := house.Text(l)
		same(t, text, []any{again, line, e}, []any{text, 0, api.OK})
	}
	if count[api.OK] < 500 || count[api.ErrSyntax] < 500 {
		t.Error("too few", count)
	}
}

// P10.4: a console does what a naive one does.
func TestConsolesAreAsNaive(t *testing.T) {
	g := dice(8)
	count := map[string]int{}
	for range 60 {
		c, d := house.New(), &desk{}
		script, answers := "", ""
		taken := false
		for range 120 {
			var lines []string
			if g.below(12) == 0 {
				for _, line := range strings.Split(g.text(), "\n") {
					lines = append(lines, "> "+line)
				}
				lines = append(lines, "put d "+g.one("p", "q"))
			} else {
				lines = []string{g.line(d.time)}
			}
			for _, line := range lines {
				want := d.do(line)
				same(t, fmt.Sprintf("%q", line), c.Do(line), want)
				word, _, _ := strings.Cut(line, " ")
				count[word+" "+want[strings.LastIndex(strings.TrimSuffix(want, "\n"), "\n")+1:]]++
				if line != "" && !strings.Contains(line, "\n") {
					script += line + "\n"
					answers += want
				}
			}
			if g.below(100) == 0 {
				l := g.notes()
				m, e := naiveMerge(d.notes, l)
				same(t, "Take", c.Take(l), e)
				if e == api.OK {
					d.notes, taken = m, true
				}
			}
			same(t, "Notes", c.Notes(), d.notes)
		}
		if !taken && len(script) <= api.MaxText {
			same(t, "Session", house.Session(script), answers)
		}
	}
	for _, s := range []string{"at ok\n", "at error 7\n", "> ok\n", "put ok\n", "put error 5\n", "put error 9\n", "move ok\n", "move error 5\n", "move error 8\n", "move error 9\n", "move error 3\n", "move error 16\n", "drop ok\n", "drop error 5\n", "names ok\n", "grids ok\n", "grids error 9\n",
		"show ok\n", "show error 5\n", "show error 8\n", "run ok\n", "run error 8\n", "moves ok\n", "free ok\n", "waves ok\n", "cache ok\n", "cache error 1\n", "code ok\n", "code error 1\n", "derive ok\n"} {
		if count[s] < 10 {
			t.Errorf("too few: %q %d", s, count[s])
		}
	}
}
