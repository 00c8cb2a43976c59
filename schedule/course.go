package schedule

import (
	"cmp"
	"slices"

	"warpbeam/api"
	"warpbeam/run"
)

// course is what a run does: its instances, and the cells that they touch, by arrays in their order, then by Cell.
type course struct {
	instances []api.Instance
	cells     []*cell
}

// courseOf is the course of a program, or why it has none.
func courseOf(p api.Program) (*course, api.Errno) {
	accesses, e := run.Accesses(p)
	if e != api.OK {
		return nil, e
	}
	instances, e := run.Instances(p)
	if e != api.OK {
		return nil, e
	}
	c := &course{instances: instances, cells: cellsOf(p.Arrays, accesses)}
	many := 0
	for _, x := range c.cells {
		many += x.pairs()
	}
	if many > api.MaxPairs {
		return nil, api.ErrFull
	}
	return c, api.OK
}

// cell is a cell that instances touch, in their order.
type cell struct {
	spot    api.Spot
	touches []touch
}

// touch is the use of a cell by an instance, that may do both: read and set it.
type touch struct {
	instance int
	sets     bool
}

func cellsOf(arrays []api.Array, accesses []api.Access) []*cell {
	places := map[string]int{}
	for i, a := range arrays {
		places[a.Key] = i
	}
	known := map[api.Spot]*cell{}
	var l []*cell
	for _, a := range accesses {
		spot := api.Spot{Array: a.Array, Cell: a.Cell}
		x := known[spot]
		if x == nil {
			x = &cell{spot: spot}
			known[spot] = x
			l = append(l, x)
		}
		x.add(a)
	}
	slices.SortFunc(l, func(a, b *cell) int {
		return cmp.Or(cmp.Compare(places[a.spot.Array], places[b.spot.Array]), cmp.Compare(a.spot.Cell, b.spot.Cell))
	})
	return l
}

// add adds an access, which is one of the latest instance.
func (c *cell) add(a api.Access) {
	last := len(c.touches) - 1
	if last < 0 || c.touches[last].instance != a.Instance {
		c.touches = append(c.touches, touch{instance: a.Instance})
		last++
	}
	if a.Sets {
		c.touches[last].sets = true
	}
}

// pairs is how many pairs of instances depend on each other by the cell: all but those of which both just read it.
func (c *cell) pairs() int {
	readers := 0
	for _, t := range c.touches {
		if !t.sets {
			readers++
		}
	}
	return pairsOf(len(c.touches)) - pairsOf(readers)
}

// pairsOf is how many pairs so many things make.
func pairsOf(n int) int { return n * (n - 1) / 2 }

// pair is two instances that depend on each other; the program does from first.
type pair struct{ from, to int }

// isAhead reports whether a pair counts before another one.
func (m pair) isAhead(o pair) bool {
	return cmp.Or(cmp.Compare(m.to, o.to), cmp.Compare(m.from, o.from)) < 0
}

// each visits all pairs of instances that depend on each other by the cell.
func (c *cell) each(visit func(m pair)) {
	var all, setters []int
	for _, t := range c.touches {
		earlier := setters
		if t.sets {
			earlier = all
		}
		for _, from := range earlier {
			visit(pair{from: from, to: t.instance})
		}
		all = append(all, t.instance)
		if t.sets {
			setters = append(setters, t.instance)
		}
	}
}
