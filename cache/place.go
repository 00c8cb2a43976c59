package cache

import (
	"cmp"
	"slices"
	"strings"

	"warpbeam/api"
	"warpbeam/nest"
	"warpbeam/run"
)

// use is an access to an address.
type use struct {
	address int
	sets    bool
}

// usesOf are the uses of a run, or what is wrong with the program or its places.
func usesOf(p api.Program, l []api.Place) ([]use, api.Errno) {
	accesses, e := run.Accesses(p)
	if e == api.OK {
		e = checkPlaces(p.Arrays, l)
	}
	if e != api.OK {
		return nil, e
	}
	return placed(p.Arrays, l, accesses), api.OK
}

// checkPlaces says what is wrong with places of arrays that are right themselves.
func checkPlaces(arrays []api.Array, l []api.Place) api.Errno {
	cells := map[string]int{}
	for _, a := range arrays {
		cells[a.Key] = cellsOf(a)
	}
	for i, x := range l {
		_, found := cells[x.Key]
		switch {
		case !isName(x.Key):
			return api.ErrName
		case i > 0 && x.Key <= l[i-1].Key:
			return api.ErrOrder
		case !found:
			return api.ErrNone
		case x.Start < 0 || x.Start > api.MaxStart:
			return api.ErrArg
		}
	}
	// As all places are of different arrays, it is enough to count them.
	if len(l) < len(arrays) {
		return api.ErrForm
	}
	if haveCommon(l, cells) {
		return api.ErrConflict
	}
	return api.OK
}

// haveCommon reports whether two places with so many cells share an address.
func haveCommon(l []api.Place, cells map[string]int) bool {
	l = slices.SortedFunc(slices.Values(l), func(a, b api.Place) int { return cmp.Compare(a.Start, b.Start) })
	for i := 1; i < len(l); i++ {
		before := l[i-1]
		if l[i].Start < before.Start+cells[before.Key] {
			return true
		}
	}
	return false
}

// packed are places of arrays, one behind the other, each one from the beginning of a line on.
func packed(arrays []api.Array, line int) []api.Place {
	var l []api.Place
	at := 0
	for _, a := range arrays {
		at = (at + line - 1) / line * line
		l = append(l, api.Place{Key: a.Key, Start: at})
		at += cellsOf(a)
	}
	slices.SortFunc(l, func(a, b api.Place) int { return strings.Compare(a.Key, b.Key) })
	return l
}

// site is an array with its place.
type site struct {
	array api.Array
	place api.Place
}

// placed are accesses to arrays at places that are right.
func placed(arrays []api.Array, l []api.Place, accesses []api.Access) []use {
	sites := map[string]site{}
	for _, a := range arrays {
		sites[a.Key] = site{array: a}
	}
	for _, x := range l {
		sites[x.Key] = site{array: sites[x.Key].array, place: x}
	}
	var uses []use
	for _, a := range accesses {
		uses = append(uses, use{address: sites[a.Array].address(a.Cell), sets: a.Sets})
	}
	return uses
}

// address is that of a cell, by its number.
func (s site) address(cell int) int {
	if s.place.Turned {
		cell = turned(s.array.Sizes, cell)
	}
	return s.place.Start + cell
}

// turned is the number that a cell has if the first index counts fastest.
func turned(sizes []int, cell int) int {
	n := 0
	for _, size := range slices.Backward(sizes) {
		n = n*size + cell%size
		cell /= size
	}
	return n
}

// linesOf are the lines in which uses lie.
func linesOf(uses []use, line int) []int {
	var l []int
	for _, u := range uses {
		l = append(l, u.address/line)
	}
	return l
}

// cellsOf is how many cells an array has that is right itself.
func cellsOf(a api.Array) int {
	n, _ := nest.Cells(api.Program{Arrays: []api.Array{a}})
	return n
}

// isName reports whether a string can be the name of an array: the same strings can be variables.
func isName(s string) bool {
	return nest.CheckForm(api.Form{Terms: []api.Term{{Name: s, Coef: 1}}}) == api.OK
}
