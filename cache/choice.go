package cache

import (
	"slices"

	"warpbeam/api"
	"warpbeam/run"
)

const (
	maxSizes = 20  // of tiles
	maxMoves = 3   // in a list
	maxLists = 200 // of moves that are looked at
)

// packedMisses is how many accesses of a program miss in a cache, if its arrays lie one behind the other.
func packedMisses(p api.Program, c api.Cache) (int, api.Errno) {
	accesses, e := run.Accesses(p)
	if e != api.OK {
		return 0, e
	}
	uses := placed(p.Arrays, packed(p.Arrays, c.Line), accesses)
	return len(misses(uses, c)), api.OK
}

// search goes through lists of moves.
type search struct {
	views
	lists int // that have been counted
}

// count counts the lists that go on from a view with up to so many moves, as long as they are not too many. The programs to which whole lists lead are not needed for this, so nothing is made in vain if they are too many.
func (s *search) count(x *view, moves int) api.Errno {
	l, e := s.movesOf(x)
	if e != api.OK {
		return e
	}
	s.lists += len(l)
	if s.lists > maxLists {
		return api.ErrFull
	}
	if moves == 1 {
		return api.OK
	}
	for _, m := range l {
		y, e := s.after(x, m)
		if e != api.OK {
			return e
		}
		if e := s.count(y, moves-1); e != api.OK {
			return e
		}
	}
	return api.OK
}

// choice is a list of moves, and how many misses there are behind it.
type choice struct {
	moves  []api.Move
	misses int
}

// isBetter reports whether a choice is better than one whose list, if it is as long, is less.
func (c choice) isBetter(than choice) bool {
	return c.misses < than.misses || c.misses == than.misses && len(c.moves) < len(than.moves)
}

// best is the best one of the lists that go on from a view, to which some moves have led.
func (s *search) best(x *view, moves []api.Move) (choice, api.Errno) {
	misses, e := s.missesOf(x)
	best := choice{moves, misses}
	if e != api.OK || len(moves) == maxMoves {
		return best, e
	}
	l, e := s.movesOf(x)
	if e != api.OK {
		return choice{}, e
	}
	// Lists that are as long come in their order, as moves do.
	for _, m := range l {
		y, e := s.after(x, m)
		if e != api.OK {
			return choice{}, e
		}
		next, e := s.best(y, append(slices.Clone(moves), m))
		if e != api.OK {
			return choice{}, e
		}
		if next.isBetter(best) {
			best = next
		}
	}
	return best, api.OK
}
