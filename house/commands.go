package house

import (
	"warpbeam/api"
	"warpbeam/run"
	"warpbeam/shape"
)

// action does what a line says, and returns its answer without the end.
type action func(c *Console, f fields) (string, api.Errno)

// command is what lines with one first word have in common: the form of the words behind it, and what is done.
type command struct {
	form string
	do   action
}

// commands are those of all first words, but for lines of the sheet, which do not consist of words.
func commands() map[string]command {
	return map[string]command{
		"at":     {"n", (*Console).at},
		"put":    {"ww", (*Console).put},
		"move":   {"wwwmnn", (*Console).move},
		"drop":   {"ww", (*Console).drop},
		"names":  {"", (*Console).names},
		"grids":  {"", (*Console).fill},
		"show":   {"w", asking(show)},
		"run":    {"w", asking(results)},
		"moves":  {"w", asking(moves)},
		"free":   {"w", asking(free)},
		"waves":  {"w", asking(waves)},
		"cache":  {"wnnn", asking(tally)},
		"code":   {"wn", asking(code)},
		"derive": {"w", asking(derive)},
	}
}

// at goes on to a moment.
func (c *Console) at(f fields) (string, api.Errno) {
	n := f.numbers[0]
	switch {
	case !isMoment(n):
		return "", api.ErrArg
	case n < c.time:
		return "", api.ErrOrder
	}
	c.time = n
	return "", api.OK
}

// write adds a line to the sheet.
func (c *Console) write(line string) {
	// What is too long to be read is so with more lines, too: they need not be kept.
	if len(c.sheet) <= api.MaxText {
		c.sheet += line + "\n"
	}
}

// put notes the sheet as a program.
func (c *Console) put(f fields) (string, api.Errno) {
	e := c.keep(api.Note{Desk: f.words[0], Kind: api.NotePut, Name: f.words[1], Text: c.sheet})
	if e == api.OK {
		c.sheet = ""
	}
	return "", e
}

// move notes a move that can be done.
func (c *Console) move(f fields) (string, api.Errno) {
	n := api.Note{Desk: f.words[0], Kind: api.NoteMove, Name: f.words[1], Of: f.words[2], Move: f.move()}
	p, e := c.program(n.Of)
	if e != api.OK {
		return "", e
	}
	if _, e := shape.Do(p, n.Move); e != api.OK {
		return "", e
	}
	return "", c.keep(n)
}

// drop notes that a name is no program any more.
func (c *Console) drop(f fields) (string, api.Errno) {
	return "", c.keep(api.Note{Desk: f.words[0], Kind: api.NoteDrop, Name: f.words[1]})
}

// names are those of all programs.
func (c *Console) names(fields) (string, api.Errno) {
	return rows(historyOf(c.notes, c.time).names()), api.OK
}

// fill takes the sheet as grids.
func (c *Console) fill(fields) (string, api.Errno) {
	g, _, e := run.ReadGrids(c.sheet)
	if e == api.OK {
		c.grids, c.sheet = g, ""
	}
	return "", e
}
