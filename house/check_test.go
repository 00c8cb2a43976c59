package house_test

import (
	"fmt"
	"strings"
	"testing"

	"warpbeam/api"
	"warpbeam/house"
)

// single checks that a note is refused, and also behind and ahead of others.
func single(t *testing.T, n api.Note, e api.Errno) {
	t.Helper()
	fails(t, fmt.Sprintf("%+v", n), notes(n), e)
	fails(t, fmt.Sprintf("%+v, behind", n), notes(drop("a", 1, 0, "p"), n), e)
	// A later note with an error of its own does not count.
	fails(t, fmt.Sprintf("%+v, ahead", n), notes(n, drop("?", 0, -1, "?")), e)
}

// P10.1: desks have keys, and names are names.
func TestKeysAndNames(t *testing.T) {
	for _, s := range append(noKeys(), "", "a b", "a\n") {
		single(t, drop(s, 1, 0, "p"), api.ErrName)
	}
	for _, s := range keys() {
		fine(t, s, drop(s, 1, 0, "p"))
	}
	for _, s := range append(noNames(), "", "a b", "a\n") {
		single(t, drop("d", 1, 0, s), api.ErrName)
		single(t, put("d", 1, 0, s, ""), api.ErrName)
		single(t, move("d", 1, 0, s, "p", 1, 0, 0), api.ErrName)
		single(t, move("d", 1, 0, "p", s, 1, 0, 0), api.ErrName)
	}
	for _, s := range []string{"a", "z", "a_", "a0", "z9_", "array_", strings.Repeat("k", api.MaxName)} {
		fine(t, s, drop("d", 1, 0, s))
		fine(t, s, put("d", 1, 0, s, ""))
		fine(t, s, move("d", 1, 0, s, "p", 1, 0, 0))
		fine(t, s, move("d", 1, 0, "p", s, 1, 0, 0))
	}
}

// P10.1: numbers of notes, and moments.
func TestNumbersOfNotes(t *testing.T) {
	for _, n := range outside(1, api.MaxNo) {
		single(t, drop("d", n, 0, "p"), api.ErrArg)
	}
	for _, n := range outside(0, api.End-1) {
		single(t, drop("d", 1, n, "p"), api.ErrArg)
	}
	fine(t, "least", drop("d", 1, 0, "p"))
	fine(t, "greatest", drop("d", api.MaxNo, api.End-1, "p"))
}

// P10.1: kinds of notes, and the fields that they use.
func TestKindsOfNotes(t *testing.T) {
	for _, kind := range append(outside(api.NotePut, api.NoteDrop), 0) {
		n := drop("d", 1, 0, "p")
		n.Kind = kind
		single(t, n, api.ErrKind)
	}
	moves := []api.Move{{Kind: 1}, {Loop: 1}, {Arg: 1}, {Kind: -1}, {Loop: -1}, {Arg: -1}}
	for _, m := range moves {
		n := put("d", 1, 0, "p", "")
		n.Move = m
		single(t, n, api.ErrForm)
		n = drop("d", 1, 0, "p")
		n.Move = m
		single(t, n, api.ErrForm)
	}
	n := put("d", 1, 0, "p", "")
	n.Of = "p"
	single(t, n, api.ErrForm)
	n = move("d", 1, 0, "p", "p", 1, 0, 0)
	n.Text = "\n"
	single(t, n, api.ErrForm)
	n = drop("d", 1, 0, "p")
	n.Of = "p"
	single(t, n, api.ErrForm)
	n = drop("d", 1, 0, "p")
	n.Text = row
	single(t, n, api.ErrForm)
}

// P10.1: texts of programs are read.
func TestTextsOfPuts(t *testing.T) {
	for _, c := range []struct {
		text string
		want api.Errno
	}{
		{"?", api.ErrSyntax}, {"array", api.ErrSyntax}, {chain + "}", api.ErrSyntax}, {"s: a[0] = 1;", api.ErrNone}, {"array a[0];", api.ErrArg}, {"array a[20001];", api.ErrArg},
		{"array a[20000]; array b[1];", api.ErrFull}, {"array a[1]; array a[1];", api.ErrTwice}, {"array a[1]; s: a[i] = 1;", api.ErrRule}, {"array a[1]; s: a[0, 0] = 1;", api.ErrForm},
		{strings.Repeat(" ", api.MaxText+1), api.ErrLarge}, {strings.Repeat("?", api.MaxText+1), api.ErrLarge}, {strings.Repeat("?", api.MaxText), api.ErrSyntax},
	} {
		single(t, put("d", 1, 0, "p", c.text), c.want)
	}
	for _, text := range []string{"", "\n", "# \x00\xff é\r", chain, row, strings.TrimSpace(row), strings.Repeat(" ", api.MaxText), "array a[1]; s: a[7] = 1;"} {
		fine(t, text, put("d", 1, 0, "p", text))
	}
}

// P10.1: moves have a kind, a loop and an Arg, whatever becomes of them.
func TestMovesOfNotes(t *testing.T) {
	for _, kind := range append(outside(api.MoveExchange, api.MoveSkew), 0) {
		single(t, move("d", 1, 0, "p", "q", kind, 0, 0), api.ErrKind)
		single(t, move("d", 1, 0, "p", "q", kind, -1, 0), api.ErrKind)
	}
	for kind := api.MoveExchange; kind <= api.MoveSkew; kind++ {
		for _, n := range outside(0, api.MaxSteps) {
			single(t, move("d", 1, 0, "p", "q", kind, n, 0), api.ErrArg)
		}
		for _, n := range outside(-api.MaxConst, api.MaxConst) {
			single(t, move("d", 1, 0, "p", "q", kind, 0, n), api.ErrArg)
		}
		fine(t, "greatest", move("d", 1, 0, "p", "q", kind, api.MaxSteps, api.MaxConst))
		fine(t, "least", move("d", 1, 0, "p", "q", kind, 0, -api.MaxConst))
		fine(t, "itself", move("d", 1, 0, "p", "p", kind, 0, 1))
	}
}

// P10.1: notes rise by Desk, then No, and At does not fall at a desk.
func TestOrderOfNotes(t *testing.T) {
	for _, l := range [][]api.Note{
		{drop("d", 1, 5, "p"), drop("d", 1, 5, "p")},
		{drop("d", 1, 5, "p"), drop("d", 1, 6, "q")},
		{drop("d", 2, 5, "p"), drop("d", 1, 5, "p")},
		{drop("d", 2, 5, "p"), drop("d", 1, 6, "p")},
		{drop("d", 10, 5, "p"), drop("d", 9, 6, "p")},
		{drop("e", 1, 5, "p"), drop("d", 2, 6, "p")},
		{drop("da", 1, 5, "p"), drop("d", 2, 6, "p")},
		{drop("d_", 1, 5, "p"), drop("d-", 2, 6, "p")},
		{drop("d", 1, 5, "p"), drop("d", 2, 4, "p")},
		{drop("c", 1, 9, "p"), drop("d", 1, 5, "p"), drop("d", 2, 4, "p"), drop("e", 1, 9, "p")},
	} {
		fails(t, fmt.Sprint(l), l, api.ErrOrder)
	}
	fine(t, "rising", drop("c", 9, 9, "p"), drop("d", 1, 5, "p"), drop("d", 2, 5, "p"), drop("d", 9, 8, "p"), drop("d", 10, 8, "p"), drop("d-", 1, 0, "p"), drop("d1", 1, 0, "p"), drop("d_", 1, 0, "p"), drop("da", 1, 0, "p"), drop("e", 1, 0, "p"))
}

// many are so many notes.
func many(n int) []api.Note {
	var l []api.Note
	for i := range n {
		l = append(l, drop("d", i+1, 5, "p"))
	}
	return l
}

// P10.1: there are at most MaxNotes.
func TestManyNotes(t *testing.T) {
	fine(t, "most", many(api.MaxNotes)...)
	fails(t, "one more", many(api.MaxNotes+1), api.ErrLarge)
	l := many(api.MaxNotes + 1)
	l[0].Desk = "?"
	fails(t, "one more, and another error", l, api.ErrLarge)
	fails(t, "very many", make([]api.Note, 200_000), api.ErrLarge)
	fine(t, "none")
}

// Z4: the first error counts: that of the first note, and of its errors the first one.
func TestFirstErrorsOfNotes(t *testing.T) {
	// Each change brings a further error, ahead of those before.
	n := move("d", 1, 4, "p", "q", 1, 0, 0)
	before := drop("d", 1, 5, "p")
	for _, c := range []struct {
		change func()
		want   api.Errno
	}{
		{func() {}, api.ErrOrder},
		{func() { n.Move.Arg = -api.MaxConst - 1 }, api.ErrArg},
		{func() { n.Move.Kind = 7 }, api.ErrKind},
		{func() { n.Of = "Q" }, api.ErrName},
		{func() { n.Text = "?" }, api.ErrForm},
		{func() { n.Kind = 4 }, api.ErrKind},
		{func() { n.At = -1 }, api.ErrArg},
		{func() { n.Desk = "D" }, api.ErrName},
	} {
		c.change()
		fails(t, fmt.Sprint(n), notes(before, n), c.want)
	}
	n = put("d", 1, 4, "p", "?")
	fails(t, "a text ahead of the order", notes(before, n), api.ErrSyntax)
	n.Name = "P"
	fails(t, "a name ahead of a text", notes(before, n), api.ErrName)
	n.Of = "p"
	fails(t, "a form ahead of a name", notes(before, n), api.ErrForm)
	n = drop("d", 0, 0, "P")
	fails(t, "a number ahead of a name", notes(before, n), api.ErrArg)
	fails(t, "the first note", notes(put("d", 1, 0, "p", "?"), drop("D", 1, 0, "p")), api.ErrSyntax)
	fails(t, "the order of the second note", notes(drop("d", 2, 0, "p"), drop("d", 1, 0, "p"), drop("D", 1, 0, "p")), api.ErrOrder)
}

// P10.2: errors of the functions, and that the first one counts.
func TestErrorsOfQuestions(t *testing.T) {
	l := notes(put("d", 1, 1, "p", row))
	wrong := notes(put("d", 1, 1, "p", "?"))
	for _, at := range outside(0, api.End-1) {
		same(t, "Names", named(l, at), failed("Names", api.ErrArg))
		same(t, "Get", got(l, "p", at), none(api.ErrArg))
		same(t, "Way", gone(l, "p", at), failed("Way", api.ErrArg))
		same(t, "Names", named(wrong, at), failed("Names", api.ErrSyntax))
	}
	for _, name := range append(noNames(), "", "a b") {
		for _, at := range []int{0, -1, api.End} {
			same(t, "Get", got(l, name, at), none(api.ErrName))
			same(t, "Way", gone(l, name, at), failed("Way", api.ErrName))
			same(t, "Get", got(wrong, name, at), none(api.ErrSyntax))
			same(t, "Way", gone(wrong, name, at), failed("Way", api.ErrSyntax))
		}
	}
	same(t, "Names", named(l, api.End-1), "[p] 0")
	same(t, "Get", got(l, "p", api.End-1), textOf(mustRead(t, row)))
	same(t, "Way", gone(l, "p", api.End-1), "[0] 0")
	same(t, "no notes", []any{named(nil, 0), got(nil, "p", 0), gone(nil, "p", 0)}, []any{"[] 0", none(api.OK), "[] 0"})
	text, e := house.Text(nil)
	same(t, "no notes", []any{text, e}, []any{"", api.OK})
}
