package run

import (
	"strconv"
	"strings"

	"warpbeam/api"
)

// maxDigits is how many digits a value in a text has at most.
const maxDigits = 9

// GridsText writes grids.
func GridsText(g []api.Grid) (string, api.Errno) {
	if e := checkRows(g); e != api.OK {
		return "", e
	}
	var b strings.Builder
	for _, x := range g {
		b.WriteString(x.Key)
		for _, n := range x.Values {
			b.WriteString(" ")
			b.WriteString(strconv.Itoa(n))
		}
		b.WriteString("\n")
	}
	if b.Len() > api.MaxText {
		return "", api.ErrLarge
	}
	return b.String(), api.OK
}

// ReadGrids reads grids; the int is the number of the line that is wrong.
func ReadGrids(text string) ([]api.Grid, int, api.Errno) {
	if len(text) > api.MaxText {
		return nil, 0, api.ErrLarge
	}
	var g []api.Grid
	for line := 0; text != ""; line++ {
		row, rest, ended := strings.Cut(text, "\n")
		x, fits := readRow(row)
		if !ended || !fits {
			return nil, line, api.ErrSyntax
		}
		g = append(g, x)
		text = rest
	}
	if e := checkRows(g); e != api.OK {
		return nil, 0, e
	}
	return g, 0, api.OK
}

// checkRows says what is wrong with grids of any program.
func checkRows(g []api.Grid) api.Errno {
	many := 0
	for i, x := range g {
		many += len(x.Values)
		switch {
		case !isName(x.Key):
			return api.ErrName
		case i > 0 && x.Key <= g[i-1].Key:
			return api.ErrOrder
		case len(x.Values) == 0:
			return api.ErrNone
		case many > api.MaxCells:
			return api.ErrLarge
		case !areValues(x.Values):
			return api.ErrArg
		}
	}
	return api.OK
}

// readRow reads a line, without its end. Any word can be a key here: whether it is a name is up to the checks.
func readRow(row string) (api.Grid, bool) {
	words := strings.Split(row, " ")
	g := api.Grid{Key: words[0]}
	for _, s := range words[1:] {
		n, fits := readValue(s)
		if !fits {
			return api.Grid{}, false
		}
		g.Values = append(g.Values, n)
	}
	return g, g.Key != "" && len(g.Values) > 0
}

// readValue reads a number that stands as it would be written.
func readValue(s string) (int, bool) {
	if len(strings.TrimPrefix(s, "-")) > maxDigits {
		return 0, false
	}
	n, e := strconv.Atoi(s)
	return n, e == nil && strconv.Itoa(n) == s
}
