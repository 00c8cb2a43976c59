package run

import (
	"slices"
	"strings"

	"warpbeam/api"
	"warpbeam/nest"
)

// layout is where the cells of all arrays lie in one memory: array behind array, rising by Key.
type layout struct {
	arrays  []api.Array
	first   []int          // the first cell of each array, and behind them how many cells there are
	numbers map[string]int // of the arrays, by Key
}

func newLayout(l []api.Array) layout {
	m := layout{arrays: slices.Clone(l), first: []int{0}, numbers: map[string]int{}}
	slices.SortFunc(m.arrays, func(a, b api.Array) int { return strings.Compare(a.Key, b.Key) })
	for i, a := range m.arrays {
		m.numbers[a.Key] = i
		m.first = append(m.first, m.first[i]+cellsOf(a))
	}
	return m
}

func cellsOf(a api.Array) int {
	n := 1
	for _, size := range a.Sizes {
		n *= size
	}
	return n
}

// keys are the Keys of all arrays.
func (m layout) keys() map[string]bool {
	return setOf(each(m.arrays, func(a api.Array) string { return a.Key }))
}

// part is the cells of an array (its number) in a memory.
func (m layout) part(memory []int, array int) []int {
	return memory[m.first[array]:m.first[array+1]]
}

// CheckGrids says what is wrong with grids.
func CheckGrids(p api.Program, g []api.Grid) api.Errno {
	if e := nest.Check(p); e != api.OK {
		return e
	}
	return newLayout(p.Arrays).checkGrids(g)
}

func (m layout) checkGrids(g []api.Grid) api.Errno {
	for i, x := range g {
		array, found := m.numbers[x.Key]
		switch {
		case !isName(x.Key):
			return api.ErrName
		case i > 0 && x.Key <= g[i-1].Key:
			return api.ErrOrder
		case !found:
			return api.ErrNone
		case len(x.Values) != m.first[array+1]-m.first[array]:
			return api.ErrForm
		case !areValues(x.Values):
			return api.ErrArg
		}
	}
	return api.OK
}

// areValues reports whether all numbers can be values of cells.
func areValues(l []int) bool {
	for _, n := range l {
		if n < 0 || n >= api.Prime {
			return false
		}
	}
	return true
}

// load is a memory with the values of grids.
func (m layout) load(g []api.Grid) []int {
	memory := make([]int, m.first[len(m.arrays)])
	for _, x := range g {
		copy(m.part(memory, m.numbers[x.Key]), x.Values)
	}
	return memory
}

// grids are those of all arrays, by Key.
func (m layout) grids(memory []int) []api.Grid {
	var g []api.Grid
	for i, a := range m.arrays {
		g = append(g, api.Grid{Key: a.Key, Values: slices.Clone(m.part(memory, i))})
	}
	return g
}

func sameGrids(a, b []api.Grid) bool {
	return slices.EqualFunc(a, b, func(x, y api.Grid) bool { return x.Key == y.Key && slices.Equal(x.Values, y.Values) })
}
