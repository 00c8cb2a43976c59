package house_test

import (
	"fmt"
	"regexp"
	"slices"
	"strconv"
	"strings"

	"warpbeam/api"
	"warpbeam/cache"
	"warpbeam/depend"
	"warpbeam/diff"
	"warpbeam/emit"
	"warpbeam/nest"
	"warpbeam/run"
	"warpbeam/shape"
)

// kept is a program with its way.
type kept struct {
	program api.Program
	way     []int
}

// naive follows all notes up to a moment, one after the other.
func naive(l []api.Note, at int) map[string]kept {
	var order []int
	for i := range l {
		if l[i].At <= at {
			order = append(order, i)
		}
	}
	slices.SortFunc(order, func(i, k int) int {
		switch a, b := l[i], l[k]; {
		case a.At != b.At:
			return a.At - b.At
		case a.Desk != b.Desk:
			return strings.Compare(a.Desk, b.Desk)
		}
		return l[i].No - l[k].No
	})
	now := map[string]kept{}
	for _, i := range order {
		switch n := l[i]; n.Kind {
		case api.NotePut:
			p, _, _ := nest.Read(n.Text)
			now[n.Name] = kept{p, []int{i}}
		case api.NoteMove:
			of, is := now[n.Of]
			p, e := shape.Do(of.program, n.Move)
			if is && e == api.OK {
				now[n.Name] = kept{p, append(slices.Clone(of.way), i)}
			}
		case api.NoteDrop:
			delete(now, n.Name)
		}
	}
	return now
}

// desk is a console as the chapter tells it.
type desk struct {
	notes []api.Note
	time  int
	sheet []string
	grids []api.Grid
}

// number is the form of a number in a line.
const number = `(0|-?[1-9][0-9]{0,11})`

// forms are those of all lines.
func forms() []string {
	word := "([^ \n]+)"
	l := []string{"(?s)(>) ([^\n]*)", "(at) " + number, "(put) " + word + " " + word, "(move) " + word + " " + word + " " + word + " (exchange|reverse|fuse|split|shift|skew) " + number + " " + number,
		"(drop) " + word + " " + word, "(names)", "(grids)", "(cache) " + word + " " + number + " " + number + " " + number, "(code) " + word + " " + number}
	for _, s := range []string{"show", "run", "moves", "free", "waves", "derive"} {
		l = append(l, "("+s+") "+word)
	}
	return l
}

// do answers a line.
func (d *desk) do(line string) string {
	for _, form := range forms() {
		if m := regexp.MustCompile(`^` + form + `$`).FindStringSubmatch(line); m != nil && !strings.HasSuffix(line, "\n") {
			text, e := d.answer(m[1], m[2:])
			if e != api.OK {
				return fmt.Sprintf("error %d\n", e)
			}
			return text + "ok\n"
		}
	}
	return "error 9\n"
}

func integer(s string) int {
	n, _ := strconv.Atoi(s)
	return n
}

// note adds a note, where it has to stand.
func (d *desk) note(n api.Note, checked func([]api.Note) api.Errno) api.Errno {
	n.At, n.No = d.time, 1
	for _, x := range d.notes {
		if x.Desk == n.Desk && x.No >= n.No {
			n.No = x.No + 1
		}
	}
	l := append(slices.Clone(d.notes), n)
	for i := len(l) - 1; i > 0 && (l[i-1].Desk > l[i].Desk || l[i-1].Desk == l[i].Desk && l[i-1].No > l[i].No); i-- {
		l[i-1], l[i] = l[i], l[i-1]
	}
	e := checked(l)
	if e == api.OK {
		d.notes = l
	}
	return e
}

// text is that of the sheet.
func (d *desk) text() string {
	text := ""
	for _, line := range d.sheet {
		text += line + "\n"
	}
	return text
}

// answer does a line with its words.
func (d *desk) answer(word string, w []string) (string, api.Errno) {
	switch word {
	case ">":
		d.sheet = append(d.sheet, w[0])
		return "", api.OK
	case "at":
		n := integer(w[0])
		if n < 0 || n >= api.End {
			return "", api.ErrArg
		}
		if n < d.time {
			return "", api.ErrOrder
		}
		d.time = n
		return "", api.OK
	case "names":
		var l []string
		for name := range naive(d.notes, d.time) {
			l = append(l, name+"\n")
		}
		slices.Sort(l)
		return strings.Join(l, ""), api.OK
	case "grids":
		g, _, e := run.ReadGrids(d.text())
		if e == api.OK {
			d.grids, d.sheet = g, nil
		}
		return "", e
	case "put":
		e := d.note(put(w[0], 0, 0, w[1], d.text()), checkNotes)
		if e == api.OK {
			d.sheet = nil
		}
		return "", e
	case "drop":
		return "", d.note(drop(w[0], 0, 0, w[1]), checkNotes)
	}
	name := w[0]
	if word == "move" {
		name = w[2]
	}
	if nest.CheckForm(api.Form{Terms: []api.Term{{Name: name, Coef: 1}}}) != api.OK {
		return "", api.ErrName
	}
	p, is := naive(d.notes, d.time)[name]
	if !is {
		return "", api.ErrNone
	}
	if word == "move" {
		kind := slices.Index([]string{"", "exchange", "reverse", "fuse", "split", "shift", "skew"}, w[3])
		n := move(w[0], 0, 0, w[1], w[2], kind, integer(w[4]), integer(w[5]))
		if _, e := shape.Do(p.program, n.Move); e != api.OK {
			return "", e
		}
		return "", d.note(n, checkNotes)
	}
	return d.question(word, p.program, w[1:])
}

// question asks something of a program.
func (d *desk) question(word string, p api.Program, w []string) (string, api.Errno) {
	switch word {
	case "show":
		return nest.Text(p)
	case "run":
		g, e := run.Run(p, d.grids)
		if e != api.OK {
			return "", e
		}
		return run.GridsText(g)
	case "moves":
		l, e := shape.Moves(p)
		text := ""
		for _, m := range l {
			text += fmt.Sprintln([]string{"", "exchange", "reverse", "fuse", "split", "shift", "skew"}[m.Kind], m.Loop, m.Arg)
		}
		return text, e
	case "free":
		l, e := depend.Free(p)
		if len(l) == 0 {
			return "", e
		}
		return strings.Trim(fmt.Sprint(l), "[]") + "\n", e
	case "waves":
		_, many, e := depend.Waves(p)
		return fmt.Sprintln(many), e
	case "cache":
		c := api.Cache{Line: integer(w[0]), Sets: integer(w[1]), Ways: integer(w[2])}
		l, e := cache.Pack(p, c.Line)
		if e != api.OK {
			return "", e
		}
		t, e := cache.Simulate(p, l, c)
		return fmt.Sprintln(t.Hits, t.Cold, t.Room, t.Clash, t.Back), e
	case "code":
		c, e := emit.Compile(p, integer(w[0]))
		if e != api.OK {
			return "", e
		}
		_, done, e := emit.Run(p, c, d.grids, api.MaxFuel)
		return fmt.Sprintln(len(c), done), e
	}
	q, e := diff.Forward(p)
	if e != api.OK {
		return "", e
	}
	return nest.Text(q)
}

// checkNotes says what is wrong with notes, error by error.
func checkNotes(l []api.Note) api.Errno {
	if len(l) > api.MaxNotes {
		return api.ErrLarge
	}
	key, name := regexp.MustCompile(`^[a-z][a-z0-9_-]{0,39}\z`), regexp.MustCompile(`^[a-z][a-z0-9_]{0,39}\z`)
	isName := func(s string) bool {
		return name.MatchString(s) && !slices.Contains([]string{"array", "for", "if", "max", "min"}, s)
	}
	for i, n := range l {
		if !key.MatchString(n.Desk) {
			return api.ErrName
		}
		if n.No < 1 || n.No > 1_000_000 || n.At < 0 || n.At >= 4_001*86_400_000 {
			return api.ErrArg
		}
		if n.Kind != 1 && n.Kind != 2 && n.Kind != 3 {
			return api.ErrKind
		}
		if n.Kind != api.NotePut && n.Text != "" || n.Kind != api.NoteMove && (n.Of != "" || n.Move.Kind != 0 || n.Move.Loop != 0 || n.Move.Arg != 0) {
			return api.ErrForm
		}
		if !isName(n.Name) || n.Kind == api.NoteMove && !isName(n.Of) {
			return api.ErrName
		}
		if n.Kind == api.NotePut {
			if _, _, e := nest.Read(n.Text); e != api.OK {
				return e
			}
		}
		if n.Kind == api.NoteMove {
			if n.Move.Kind < 1 || n.Move.Kind > 6 {
				return api.ErrKind
			}
			if n.Move.Loop < 0 || n.Move.Loop > 300 || n.Move.Arg < -1_000_000 || n.Move.Arg > 1_000_000 {
				return api.ErrArg
			}
		}
		if i == 0 {
			continue
		}
		if b := l[i-1]; b.Desk > n.Desk || b.Desk == n.Desk && (b.No >= n.No || b.At > n.At) {
			return api.ErrOrder
		}
	}
	return api.OK
}
