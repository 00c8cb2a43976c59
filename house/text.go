package house

import (
	"slices"
	"strconv"
	"strings"

	"warpbeam/api"
)

const (
	noteDigits = 15  // of a number in a text of notes, at most
	lineMark   = "|" // what each line of a program begins with there
)

// noteForms are the forms of the lines of notes without the words of their kinds, by these.
func noteForms() []string {
	return []string{api.NotePut: "wnnwn", api.NoteMove: "wnnwwmnn", api.NoteDrop: "wnnw"}
}

// textOf writes checked notes.
func textOf(l []api.Note) string {
	var b strings.Builder
	for _, n := range l {
		lines := linesOf(n.Text)
		words := []string{n.Desk, strconv.Itoa(n.No), strconv.Itoa(n.At), noteWords()[n.Kind], n.Name}
		switch n.Kind {
		case api.NotePut:
			words = append(words, strconv.Itoa(len(lines)))
		case api.NoteMove:
			words = append(words, n.Of, moveText(n.Move))
		}
		b.WriteString(strings.Join(words, " ") + "\n")
		for _, line := range lines {
			b.WriteString(lineMark + line + "\n")
		}
	}
	return b.String()
}

// notesOf reads notes, or returns the number of the first line that has not its form, and false.
func notesOf(text string) ([]api.Note, int, bool) {
	lines := strings.Split(text, "\n")
	// What stands behind the last line feed is no line that fits, and has the number of all others.
	many := len(lines) - 1
	rest := lines[many]
	lines = lines[:many]
	var l []api.Note
	for at := 0; at < many; {
		n, needs, fits := readNote(lines[at])
		if !fits {
			return nil, at, false
		}
		at++
		behind, fits := unmarked(lines[at:], needs)
		at += len(behind)
		if !fits {
			return nil, at, false
		}
		n.Text = rows(behind)
		l = append(l, n)
	}
	return l, many, rest == ""
}

// unmarked are so many lines without their marks, or those ahead of the first one that has none, and false.
func unmarked(lines []string, many int) ([]string, bool) {
	var l []string
	for len(l) < min(many, len(lines)) {
		line, is := strings.CutPrefix(lines[len(l)], lineMark)
		if !is {
			return l, false
		}
		l = append(l, line)
	}
	return l, len(l) == many
}

// readNote reads the line of a note; the int is how many lines of a program have to stand behind it.
func readNote(line string) (api.Note, int, bool) {
	const kindAt = 3
	words := strings.Split(line, " ")
	if len(words) <= kindAt {
		return api.Note{}, 0, false
	}
	kind, is := kindOf(noteWords(), words[kindAt])
	if !is {
		return api.Note{}, 0, false
	}
	f, fits := fieldsOf(slices.Delete(words, kindAt, kindAt+1), noteForms()[kind], noteDigits)
	if !fits {
		return api.Note{}, 0, false
	}
	n := api.Note{Desk: f.words[0], No: f.numbers[0], At: f.numbers[1], Kind: kind, Name: f.words[1]}
	needs := 0
	switch kind {
	case api.NotePut:
		needs = f.numbers[2]
	case api.NoteMove:
		n.Of, n.Move = f.words[2], f.move()
	}
	return n, needs, needs >= 0
}
