package depend

import (
	"cmp"
	"strings"

	"warpbeam/api"
)

// cell is how a cell has been used so far.
type cell struct {
	setter  int   // the last instance that set it, or none
	readers []int // the instances that read it and that no later one overwrote, rising; the setter can be among them
}

// reads reports whether an instance, which is the latest one, reads the cell.
func (c *cell) reads(instance int) bool {
	last := len(c.readers) - 1
	return last >= 0 && c.readers[last] == instance
}

// search goes through the accesses of a run.
type search struct {
	cells map[api.Spot]*cell
	found []api.Dependence
}

// use adds the dependences that end at an access.
func (s *search) use(a api.Access) {
	spot := api.Spot{Array: a.Array, Cell: a.Cell}
	c := s.cells[spot]
	if c == nil {
		c = &cell{setter: none}
		s.cells[spot] = c
	}
	switch {
	case a.Sets:
		s.set(c, spot, a.Instance)
	case !c.reads(a.Instance):
		// A second read by one instance is no second dependence.
		s.add(api.DepFlow, c.setter, a.Instance, spot)
		c.readers = append(c.readers, a.Instance)
	}
}

func (s *search) set(c *cell, spot api.Spot, instance int) {
	s.add(api.DepOutput, c.setter, instance, spot)
	for _, i := range c.readers {
		s.add(api.DepAnti, i, instance, spot)
	}
	// An instance that reads what it sets itself has read it before the next one sets it, too.
	if c.reads(instance) {
		c.readers = []int{instance}
	} else {
		c.readers = nil
	}
	c.setter = instance
}

// add adds a dependence, if there is an earlier instance.
func (s *search) add(kind, from, to int, spot api.Spot) {
	if from == none || from == to {
		return
	}
	s.found = append(s.found, api.Dependence{Kind: kind, From: from, To: to, Array: spot.Array, Cell: spot.Cell})
}

// compared is the order of dependences.
func compared(a, b api.Dependence) int {
	return cmp.Or(
		cmp.Compare(a.To, b.To),
		cmp.Compare(a.From, b.From),
		cmp.Compare(a.Kind, b.Kind),
		strings.Compare(a.Array, b.Array),
		cmp.Compare(a.Cell, b.Cell),
	)
}
