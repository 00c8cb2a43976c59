package house

import (
	"slices"
	"strconv"
	"strings"

	"warpbeam/api"
)

// What a word of a line can be. A form is a string with one of these for each word.
const (
	anyWord    = 'w'
	numberWord = 'n'
	moveWord   = 'm' // the word of a kind of moves
)

// noteWords are the words of the kinds of notes.
func noteWords() []string {
	return []string{api.NotePut: "put", api.NoteMove: "move", api.NoteDrop: "drop"}
}

// moveWords are the words of the kinds of moves.
func moveWords() []string {
	return []string{
		api.MoveExchange: "exchange", api.MoveReverse: "reverse", api.MoveFuse: "fuse",
		api.MoveSplit: "split", api.MoveShift: "shift", api.MoveSkew: "skew",
	}
}

// kindOf is the kind that has a word. The empty word at 0 is that of no kind.
func kindOf(words []string, word string) (int, bool) {
	kind := slices.Index(words, word)
	return kind, kind > 0
}

// fields are what the words of a line say. The word of a move stands among the numbers, as the number of its kind.
type fields struct {
	words   []string
	numbers []int
}

// fieldsOf reads words, or returns false if they have not a form.
func fieldsOf(words []string, form string, digits int) (fields, bool) {
	if len(words) != len(form) {
		return fields{}, false
	}
	var f fields
	for i, word := range words {
		fits := true
		switch form[i] {
		case anyWord:
			fits = word != ""
			f.words = append(f.words, word)
		case numberWord:
			fits = f.add(readNumber(word, digits))
		case moveWord:
			fits = f.add(kindOf(moveWords(), word))
		}
		if !fits {
			return fields{}, false
		}
	}
	return f, true
}

// add adds a number, if it is one.
func (f *fields) add(n int, is bool) bool {
	f.numbers = append(f.numbers, n)
	return is
}

// move is the move with which a line ends.
func (f fields) move() api.Move {
	n := f.numbers[len(f.numbers)-3:]
	return api.Move{Kind: n[0], Loop: n[1], Arg: n[2]}
}

// moveText is how a move stands in a line.
func moveText(m api.Move) string {
	return moveWords()[m.Kind] + " " + strconv.Itoa(m.Loop) + " " + strconv.Itoa(m.Arg)
}

// readNumber reads a number that stands as it would be written.
func readNumber(s string, digits int) (int, bool) {
	if len(strings.TrimPrefix(s, "-")) > digits {
		return 0, false
	}
	n, e := strconv.Atoi(s)
	return n, e == nil && strconv.Itoa(n) == s
}

// linesOf are the lines of a text; the last one can be without a line feed.
func linesOf(text string) []string {
	if text == "" {
		return nil
	}
	return strings.Split(strings.TrimSuffix(text, "\n"), "\n")
}

// rows are lines, each one ended by a line feed.
func rows(lines []string) string {
	if len(lines) == 0 {
		return ""
	}
	return strings.Join(lines, "\n") + "\n"
}
