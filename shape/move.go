package shape

import (
	"warpbeam/api"
)

// transformOf is what a move does to its loop.
func transformOf(m api.Move) (transform, api.Errno) {
	var t transform
	bare := false // whether Arg has to be 0
	switch m.Kind {
	case api.MoveExchange:
		t, bare = exchange, true
	case api.MoveReverse:
		t, bare = reverse, true
	case api.MoveFuse:
		t, bare = fuse, true
	case api.MoveSplit:
		t = split(m.Arg)
	case api.MoveShift:
		t = shift(m.Arg)
	case api.MoveSkew:
		t = skew(m.Arg)
	default:
		return nil, api.ErrKind
	}
	if bare && m.Arg != 0 {
		return nil, api.ErrForm
	}
	return t, api.OK
}

// movesOf are the moves of a loop that has a number which can be asked for, by Kind, then Arg.
func movesOf(n int, s api.Step) []api.Move {
	l := []api.Move{
		{Kind: api.MoveExchange, Loop: n},
		{Kind: api.MoveReverse, Loop: n},
		{Kind: api.MoveFuse, Loop: n},
	}
	for at := 1; at < len(s.Body); at++ {
		l = append(l, api.Move{Kind: api.MoveSplit, Loop: n, Arg: at})
	}
	return l
}

// can reports whether a move can be done without an error.
func (c *course) can(m api.Move) bool {
	t, e := transformOf(m)
	if e != api.OK {
		return false
	}
	_, e = c.changed(m.Loop, t)
	return e == api.OK
}
