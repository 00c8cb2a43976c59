package nest

import (
	"strconv"
	"strings"
)

// maxDigits is how many digits the word of a number has at most.
const maxDigits = 7

// Kinds of words.
type wordKind int

const (
	wordEnd    wordKind = iota // there are no more words
	wordNone                   // a byte that begins no word
	wordNumber                 // digits
	wordName                   // a name, of any length
	wordMark                   // a word or a sign of the grammar
)

// reader reads a text word by word. Behind the first word that does not fit there are no more words for it, so all that is being read comes to its end.
type reader struct {
	text   string
	kind   wordKind
	start  int // of the word that is next
	behind int // the first byte behind this word
	failed bool
	wrong  int // where the first word stands that does not fit
}

func newReader(text string) *reader {
	r := &reader{text: text}
	r.next()
	return r
}

// next goes on to the word behind this one.
func (r *reader) next() {
	r.start = skipGap(r.text, r.behind)
	kind, length := firstWord(r.text[r.start:])
	r.kind = kind
	r.behind = r.start + length
}

// fail keeps where the first word stands that does not fit.
func (r *reader) fail() {
	if !r.failed {
		r.failed, r.wrong = true, r.start
	}
	r.kind, r.start, r.behind = wordEnd, len(r.text), len(r.text)
}

func (r *reader) word() string { return r.text[r.start:r.behind] }

func (r *reader) is(mark string) bool { return r.kind == wordMark && r.word() == mark }

// accept goes on if a word of the grammar is next.
func (r *reader) accept(mark string) bool {
	if !r.is(mark) {
		return false
	}
	r.next()
	return true
}

func (r *reader) expect(mark string) {
	if !r.accept(mark) {
		r.fail()
	}
}

func (r *reader) name() string {
	if r.kind != wordName {
		r.fail()
		return ""
	}
	s := r.word()
	r.next()
	return s
}

func (r *reader) number() int {
	if r.kind != wordNumber {
		r.fail()
		return 0
	}
	n, _ := strconv.Atoi(r.word())
	r.next()
	return n
}

// end expects that no word is left.
func (r *reader) end() {
	if r.kind != wordEnd {
		r.fail()
	}
}

// firstWord is the longest word at the beginning of a string, and its length.
func firstWord(s string) (wordKind, int) {
	if s == "" {
		return wordEnd, 0
	}
	switch n := nameLength(s); {
	case n > 0 && isReserved(s[:n]):
		return wordMark, n
	case n > 0:
		return wordName, n
	case isDigit(s[0]):
		return wordNumber, numberLength(s)
	case strings.HasPrefix(s, "..") || strings.HasPrefix(s, ">="):
		return wordMark, 2
	case strings.IndexByte("[](){},;:=+-*/<>", s[0]) >= 0:
		return wordMark, 1
	}
	return wordNone, 1
}

// numberLength is how many digits at the beginning of a string are one number: a 0 is one by itself.
func numberLength(s string) int {
	if s[0] == '0' {
		return 1
	}
	n := 0
	for n < len(s) && n < maxDigits && isDigit(s[n]) {
		n++
	}
	return n
}

// skipGap is where the blanks, line feeds and comments end that begin at an offset.
func skipGap(s string, at int) int {
	for at < len(s) {
		switch s[at] {
		case ' ', '\n':
			at++
		case '#':
			for at < len(s) && s[at] != '\n' {
				at++
			}
		default:
			return at
		}
	}
	return at
}
