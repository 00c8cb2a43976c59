package emit

import (
	"strconv"
	"strings"

	"warpbeam/api"
)

// maxDigits is how many digits a number in a text has at most.
const maxDigits = 9

// textOf writes a line for each instruction of checked code.
func textOf(c []api.Order) string {
	var b strings.Builder
	for _, o := range c {
		k := kinds[o.Do]
		b.WriteString(k.word)
		for i, n := range fieldsOf(o) {
			if k.uses[i] != none {
				b.WriteString(" ")
				b.WriteString(strconv.Itoa(n))
			}
		}
		b.WriteString("\n")
	}
	return b.String()
}

// ordersOf reads lines, or returns the number of the first one that has not its form, and false.
func ordersOf(text string) ([]api.Order, int, bool) {
	words := map[string]int{}
	for do := api.DoHalt; isKind(do); do++ {
		words[kinds[do].word] = do
	}
	var c []api.Order
	for line := 0; text != ""; line++ {
		row, rest, ended := strings.Cut(text, "\n")
		o, fits := readOrder(row, words)
		if !ended || !fits {
			return nil, line, false
		}
		c = append(c, o)
		text = rest
	}
	return c, 0, true
}

// readOrder reads a line, without its end.
func readOrder(row string, words map[string]int) (api.Order, bool) {
	parts := strings.Split(row, " ")
	do, found := words[parts[0]]
	if !found {
		return api.Order{}, false
	}
	parts = parts[1:]
	var fields [4]int
	for i, u := range kinds[do].uses {
		if u == none {
			continue
		}
		if len(parts) == 0 {
			return api.Order{}, false
		}
		n, fits := readNumber(parts[0])
		if !fits {
			return api.Order{}, false
		}
		fields[i] = n
		parts = parts[1:]
	}
	return orderOf(do, fields), len(parts) == 0
}

// readNumber reads a number that stands as it would be written.
func readNumber(s string) (int, bool) {
	if len(strings.TrimPrefix(s, "-")) > maxDigits {
		return 0, false
	}
	n, e := strconv.Atoi(s)
	return n, e == nil && strconv.Itoa(n) == s
}
