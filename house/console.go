package house

import (
	"slices"
	"strconv"
	"strings"

	"warpbeam/api"
)

const (
	lineDigits = 12   // of a number in a line, at most
	sheetMark  = "> " // what a line for the sheet begins with
)

// Console keeps a session.
type Console struct {
	notes []api.Note
	time  int
	sheet string // its lines, each one ended by a line feed
	grids []api.Grid
}

// New is an empty console.
func New() *Console { return &Console{} }

// Take takes notes.
func (c *Console) Take(l []api.Note) api.Errno {
	all, e := Merge(c.notes, l)
	if e == api.OK {
		c.notes = all
	}
	return e
}

// Notes are the notes of a console.
func (c *Console) Notes() []api.Note { return slices.Clone(c.notes) }

// Do executes a line.
func (c *Console) Do(line string) string {
	answer, e := c.execute(line)
	if e != api.OK {
		return failure(e)
	}
	return answer + "ok\n"
}

// Session executes the lines of a script.
func Session(script string) string {
	if len(script) > api.MaxText {
		return failure(api.ErrLarge)
	}
	lines := linesOf(script)
	if len(lines) > api.MaxScript {
		return failure(api.ErrLarge)
	}
	c := New()
	var b strings.Builder
	for _, line := range lines {
		if line != "" {
			b.WriteString(c.Do(line))
		}
	}
	return b.String()
}

// failure is the answer to a line with an error.
func failure(e api.Errno) string { return "error " + strconv.Itoa(int(e)) + "\n" }

// execute does what a line says, and returns its answer without the end.
func (c *Console) execute(line string) (string, api.Errno) {
	if strings.Contains(line, "\n") {
		return "", api.ErrSyntax
	}
	if text, is := strings.CutPrefix(line, sheetMark); is {
		c.write(text)
		return "", api.OK
	}
	words := strings.Split(line, " ")
	x, known := commands()[words[0]]
	if !known {
		return "", api.ErrSyntax
	}
	f, fits := fieldsOf(words[1:], x.form, lineDigits)
	if !fits {
		return "", api.ErrSyntax
	}
	return x.do(c, f)
}

// program is what a name is at the time.
func (c *Console) program(name string) (api.Program, api.Errno) {
	if !isName(name) {
		return api.Program{}, api.ErrName
	}
	w := historyOf(c.notes, c.time).last(name)
	if w == nil {
		return api.Program{}, api.ErrNone
	}
	return w.program, api.OK
}

// keep notes what is done at a desk now.
func (c *Console) keep(n api.Note) api.Errno {
	n.No, n.At = 1, c.time
	for _, x := range c.notes {
		if x.Desk == n.Desk {
			n.No = x.No + 1
		}
	}
	all := together(c.notes, []api.Note{n})
	if e := CheckNotes(all); e != api.OK {
		return e
	}
	c.notes = all
	return api.OK
}
