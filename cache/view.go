package cache

import (
	"warpbeam/api"
	"warpbeam/nest"
	"warpbeam/shape"
)

// lazy is a value that is found when it is first asked for.
type lazy[T any] struct {
	value T
	known bool
}

func (l *lazy[T]) get(find func() (T, api.Errno)) (T, api.Errno) {
	if l.known {
		return l.value, api.OK
	}
	value, e := find()
	if e == api.OK {
		l.value, l.known = value, true
	}
	return value, e
}

// view is what is known of a program.
type view struct {
	program api.Program
	misses  lazy[int]
	moves   lazy[[]api.Move]
	behind  map[api.Move]*view // what moves have led to
}

// views are those of programs by their texts: many lists of moves lead to one program, and to look at it takes long.
type views struct {
	cache api.Cache
	known map[string]*view
}

// of is the view of a program.
func (v *views) of(p api.Program) *view {
	text, e := nest.Text(p)
	if x := v.known[text]; x != nil {
		return x
	}
	x := &view{program: p, behind: map[api.Move]*view{}}
	// A program that is too large for a text is looked at each time.
	if e == api.OK {
		v.known[text] = x
	}
	return x
}

// missesOf is how many misses the program of a view has.
func (v *views) missesOf(x *view) (int, api.Errno) {
	return x.misses.get(func() (int, api.Errno) { return packedMisses(x.program, v.cache) })
}

// movesOf are all moves that can be done from a view on, by Loop, Kind and Arg.
func (v *views) movesOf(x *view) ([]api.Move, api.Errno) {
	return x.moves.get(func() ([]api.Move, api.Errno) { return shape.Moves(x.program) })
}

// after is the view behind a move.
func (v *views) after(x *view, m api.Move) (*view, api.Errno) {
	if y := x.behind[m]; y != nil {
		return y, api.OK
	}
	q, e := shape.Do(x.program, m)
	if e != api.OK {
		return nil, e
	}
	y := v.of(q)
	x.behind[m] = y
	return y, api.OK
}
