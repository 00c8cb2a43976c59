package house_test

import (
	"fmt"
	"testing"

	"warpbeam/api"
	"warpbeam/house"
	"warpbeam/nest"
	"warpbeam/shape"
)

func mustRead(t *testing.T, text string) api.Program {
	t.Helper()
	p, at, e := nest.Read(text)
	if e != api.OK {
		t.Fatal(text, at, e)
	}
	return p
}

// moved is a program after a move that has to be possible, on one line.
func moved(t *testing.T, text string, kind, loop, arg int) string {
	t.Helper()
	p, e := shape.Do(mustRead(t, text), api.Move{Kind: kind, Loop: loop, Arg: arg})
	if e != api.OK {
		t.Fatal(text, kind, loop, arg, e)
	}
	return textOf(p)
}

// is checks what a name is at a moment: a program on one line, and its way.
func is(t *testing.T, l []api.Note, name string, at int, text string, way ...int) {
	t.Helper()
	same(t, fmt.Sprint("Get ", name, at), got(l, name, at), text)
	same(t, fmt.Sprint("Way ", name, at), gone(l, name, at), fmt.Sprint(way, 0))
}

// isNone checks that a name is no program at a moment.
func isNone(t *testing.T, l []api.Note, name string, at int) {
	t.Helper()
	is(t, l, name, at, none(api.OK))
}

// P10.2: programs are put, put again, and dropped.
func TestPutAndDrop(t *testing.T) {
	one, two := textOf(mustRead(t, chain)), textOf(mustRead(t, row))
	l := notes(put("d", 1, 3, "q", chain), put("d", 2, 5, "p", row), put("d", 4, 6, "q", row), drop("d", 5, 8, "q"), drop("d", 6, 9, "r"), put("d", 9, 11, "q", chain))
	for _, c := range []struct {
		at   int
		want string
	}{{0, "[]"}, {2, "[]"}, {3, "[q]"}, {4, "[q]"}, {5, "[p q]"}, {7, "[p q]"}, {8, "[p]"}, {10, "[p]"}, {11, "[p q]"}, {api.End - 1, "[p q]"}} {
		same(t, "Names", named(l, c.at), c.want+" 0")
	}
	isNone(t, l, "q", 2)
	is(t, l, "q", 3, one, 0)
	is(t, l, "q", 5, one, 0)
	is(t, l, "q", 6, two, 2)
	is(t, l, "q", 7, two, 2)
	isNone(t, l, "q", 8)
	is(t, l, "q", 11, one, 5)
	is(t, l, "p", 11, two, 1)
	isNone(t, l, "r", 11)
	isNone(t, l, "s", 11)
}

// P10.2: moves make programs of others, as they are then, or change nothing.
func TestMovesOfPrograms(t *testing.T) {
	one, two := textOf(mustRead(t, chain)), textOf(mustRead(t, row))
	l := notes(
		put("d", 1, 1, "p", row),
		move("d", 2, 2, "q", "p", api.MoveReverse, 0, 0),
		put("d", 3, 3, "p", chain),
		move("d", 4, 4, "q", "p", api.MoveReverse, 0, 0), // cannot be done
		move("d", 5, 5, "p", "p", api.MoveShift, 0, 2),
		move("d", 6, 6, "q", "r", api.MoveReverse, 0, 0), // r is none
		move("d", 7, 7, "q", "q", api.MoveReverse, 1, 0), // no such loop
		move("d", 8, 8, "r", "q", api.MoveShift, 0, 1),
		drop("d", 9, 9, "q"),
		move("d", 10, 9, "q", "q", api.MoveShift, 0, 1), // q is none
		move("d", 11, 10, "q", "r", api.MoveReverse, 0, 0),
	)
	back := moved(t, row, api.MoveReverse, 0, 0)
	is(t, l, "p", 2, two, 0)
	isNone(t, l, "q", 1)
	is(t, l, "q", 2, back, 0, 1)
	is(t, l, "q", 4, back, 0, 1)
	is(t, l, "p", 4, one, 2)
	is(t, l, "p", 5, moved(t, chain, api.MoveShift, 0, 2), 2, 4)
	is(t, l, "q", 7, back, 0, 1)
	isNone(t, l, "r", 7)
	shifted := "array a[9]; for i = 1 .. 4 { s: a[-i + 4] = <-2*i + 8>; }"
	is(t, l, "r", 8, shifted, 0, 1, 7)
	isNone(t, l, "q", 9)
	is(t, l, "r", 9, shifted, 0, 1, 7)
	is(t, l, "q", 10, "array a[9]; for i = 1 .. 4 { s: a[i - 1] = <2*i - 2>; }", 0, 1, 7, 10)
	same(t, "Names", named(l, 10), "[p q r] 0")
	same(t, "Names", named(l, 9), "[p r] 0")
}

// P10.2: every kind of moves is done with its loop and its Arg.
func TestKindsOfMoves(t *testing.T) {
	const text = `array a[9, 9];
for i = 0 .. 2 {
  for j = 0 .. 3 {
    s: a[i, j] = <i + j>;
    t: a[i + 5, j] = <i - j>;
  }
}
for i = 0 .. 2 {
  u: a[i, 8] = 1;
}
for k = 0 .. 2 {
  v: a[k, 7] = 2;
}
`
	for _, m := range []api.Move{{Kind: api.MoveExchange}, {Kind: api.MoveReverse, Loop: 3}, {Kind: api.MoveFuse, Loop: 2}, {Kind: api.MoveSplit, Loop: 1, Arg: 1}, {Kind: api.MoveShift, Loop: 1, Arg: -5}, {Kind: api.MoveSkew, Arg: 2}} {
		l := notes(put("d", 1, 0, "p", text), move("d", 2, 0, "q", "p", m.Kind, m.Loop, m.Arg))
		is(t, l, "q", 0, moved(t, text, m.Kind, m.Loop, m.Arg), 0, 1)
	}
	// An Arg that has to be 0 is an error of the move, not of the note.
	l := notes(put("d", 1, 0, "p", text), move("d", 2, 0, "q", "p", api.MoveReverse, 0, 1), move("d", 3, 0, "q", "p", api.MoveFuse, 1, 0))
	isNone(t, l, "q", 0)
}

// P10.2: notes count in the order of At, then Desk, then No.
func TestNotesCountInOrder(t *testing.T) {
	a, b, c := "array a[1];", "array b[1];", "array c[1];"
	// b is put first, then c; at one moment the desk d counts ahead of e.
	l := notes(put("d", 1, 7, "p", c), put("e", 1, 3, "p", b))
	is(t, l, "p", 3, b, 1)
	is(t, l, "p", 6, b, 1)
	is(t, l, "p", 7, c, 0)
	l = notes(put("d", 1, 3, "p", b), put("d", 2, 3, "p", c), put("e", 9, 3, "p", a))
	is(t, l, "p", 3, a, 2)
	l = notes(drop("d", 2, 3, "p"), put("e", 1, 3, "p", a))
	is(t, l, "p", 3, a, 1)
	l = notes(put("d", 2, 3, "p", a), drop("e", 1, 3, "p"))
	isNone(t, l, "p", 3)
	l = notes(put("d", 1, 3, "p", a), put("d", 2, 3, "p", c))
	is(t, l, "p", 3, c, 1)
	// A move of a desk can come too early at a moment.
	l = notes(move("d", 1, 3, "q", "p", api.MoveReverse, 0, 0), put("e", 1, 3, "p", row))
	isNone(t, l, "q", 5)
	l = notes(put("d", 1, 3, "p", row), move("e", 1, 3, "q", "p", api.MoveReverse, 0, 0), put("f", 1, 3, "p", a))
	is(t, l, "q", 3, moved(t, row, api.MoveReverse, 0, 0), 0, 1)
	is(t, l, "p", 3, a, 2)
	// Indices are those of notes in the list; ways are in the order in which notes count.
	l = notes(move("a", 1, 6, "q", "q", api.MoveShift, 0, 1), move("b", 1, 5, "q", "p", api.MoveReverse, 0, 0), move("b", 2, 8, "r", "q", api.MoveShift, 0, -1), put("c", 5, 4, "p", row), drop("c", 6, 8, "q"))
	is(t, l, "r", 8, "array a[9]; for i = 0 .. 3 { s: a[-i + 3] = <-2*i + 6>; }", 3, 1, 0, 2)
	same(t, "Names", named(l, 8), "[p r] 0")
	// Desks are compared byte by byte.
	l = notes(put("a-", 1, 3, "p", a), put("a0", 1, 3, "p", b), put("a_", 1, 3, "p", c))
	is(t, l, "p", 3, c, 2)
}

// P10.2: many moves on the way to a program, and many that hang on one that cannot be done.
func TestLongWays(t *testing.T) {
	l := notes(put("d", 1, 0, "p", row))
	way := []int{0}
	for i := 1; i < api.MaxNotes; i++ {
		l = append(l, move("d", i+1, i, "p", "p", api.MoveShift, 0, 1))
		way = append(way, i)
	}
	is(t, l, "p", api.MaxNotes, fmt.Sprintf("array a[9]; for i = %d .. %d { s: a[i - %d] = <2*i - %d>; }", 199, 202, 199, 398), way...)
	is(t, l, "p", 99, fmt.Sprintf("array a[9]; for i = %d .. %d { s: a[i - %d] = <2*i - %d>; }", 99, 102, 99, 198), way[:100]...)
	for i := range l[1:] {
		l[i+1].Move.Loop = 1
	}
	is(t, l, "p", api.MaxNotes, textOf(mustRead(t, row)), 0)
	same(t, "Names", named(l, api.MaxNotes), "[p] 0")
	l[0].Name = "q"
	isNone(t, l, "p", api.MaxNotes)
	same(t, "Names", named(l, api.MaxNotes), "[q] 0")
}

// P10.2: programs whose run has an error are programs, but no move of them can be done.
func TestProgramsThatCannotRun(t *testing.T) {
	const text = "array a[2]; for i = 0 .. 2 { s: a[i] = 1; }"
	l := notes(put("d", 1, 0, "p", text), move("d", 2, 0, "q", "p", api.MoveReverse, 0, 0))
	is(t, l, "p", 0, text, 0)
	isNone(t, l, "q", 0)
	same(t, "Names", named(l, 0), "[p] 0")
	l = notes(put("d", 1, 0, "p", ""), put("d", 2, 0, "r", "# nothing"))
	is(t, l, "p", 0, "", 0)
	same(t, "Names", named(l, 0), "[p r] 0")
	_, found, e := house.Get(l, "r", 0)
	same(t, "Get", []any{found, e}, []any{true, api.OK})
}
