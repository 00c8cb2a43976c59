package nest

import (
	"warpbeam/api"
)

// isName reports whether a string can be the name of an array, a loop or a statement.
func isName(s string) bool {
	return len(s) > 0 && len(s) <= api.MaxName && nameLength(s) == len(s) && !isReserved(s)
}

// nameLength is how many bytes at the beginning of a string are bytes of one name, however long it is.
func nameLength(s string) int {
	n := 0
	for n < len(s) && (isLetter(s[n]) || n > 0 && (isDigit(s[n]) || s[n] == '_')) {
		n++
	}
	return n
}

// isReserved reports whether a string is a word of the grammar, and so no name.
func isReserved(s string) bool {
	switch s {
	case "array", "for", "if", "max", "min":
		return true
	}
	return false
}

func isLetter(b byte) bool { return 'a' <= b && b <= 'z' }

func isDigit(b byte) bool { return '0' <= b && b <= '9' }
