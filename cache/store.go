package cache

import (
	"slices"

	"warpbeam/api"
)

// held is a line in a cache.
type held struct {
	line  int
	dirty bool
}

// store is what a cache holds, and how many dirty lines went out of it.
type store struct {
	api.Cache
	sets [][]held // in each one the line that was used longest ago stands first
	back int
}

func newStore(c api.Cache) *store { return &store{Cache: c, sets: make([][]held, c.Sets)} }

// hits does a use, and reports whether its line was held.
func (s *store) hits(u use) bool {
	line := u.address / s.Line
	l := s.sets[line%s.Sets]
	at := slices.IndexFunc(l, func(x held) bool { return x.line == line })
	next := held{line: line, dirty: u.sets}
	switch {
	case at >= 0:
		next.dirty = next.dirty || l[at].dirty
		l = slices.Delete(l, at, at+1)
	case len(l) == s.Ways:
		s.back += dirty(l[:1])
		l = slices.Delete(l, 0, 1)
	}
	s.sets[line%s.Sets] = append(l, next)
	return at >= 0
}

// allBack is how many lines are written back, if the end is now.
func (s *store) allBack() int {
	n := s.back
	for _, l := range s.sets {
		n += dirty(l)
	}
	return n
}

// dirty is how many lines are dirty.
func dirty(l []held) int {
	n := 0
	for _, x := range l {
		if x.dirty {
			n++
		}
	}
	return n
}

// misses are the numbers of the uses that miss in a cache.
func misses(uses []use, c api.Cache) []int {
	s := newStore(c)
	var l []int
	for i, u := range uses {
		if !s.hits(u) {
			l = append(l, i)
		}
	}
	return l
}

// tally is what a cache does.
func tally(uses []use, c api.Cache) api.Tally {
	s := newStore(c)
	far := distances(linesOf(uses, c.Line))
	var t api.Tally
	for i, u := range uses {
		switch {
		case s.hits(u):
			t.Hits++
		case far[i] == never:
			t.Cold++
		case far[i] >= c.Sets*c.Ways:
			t.Room++
		default:
			t.Clash++
		}
	}
	t.Back = s.allBack()
	return t
}
