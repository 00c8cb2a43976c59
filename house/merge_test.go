package house_test

import (
	"fmt"
	"testing"

	"warpbeam/api"
	"warpbeam/house"
)

// merged checks what Merge and Take make of two lists, in both orders.
func merged(t *testing.T, what string, a, b, want []api.Note, e api.Errno) {
	t.Helper()
	for _, l := range [][2][]api.Note{{a, b}, {b, a}} {
		m, got := house.Merge(l[0], l[1])
		same(t, what, []any{m, got}, []any{want, e})
		c := house.New()
		same(t, what, c.Take(l[0]), api.OK)
		same(t, what, c.Take(l[1]), e)
		if e == api.OK {
			same(t, what, c.Notes(), want)
		} else {
			same(t, what, c.Notes(), l[0])
		}
	}
}

// P10.1: notes of both lists, those in both once.
func TestMerge(t *testing.T) {
	l := notes(drop("a", 1, 9, "p"), put("b", 1, 3, "p", row), move("b", 2, 3, "p", "q", 2, 0, 0), drop("b", 3, 4, "p"), put("b-1", 7, 1, "q", ""), drop("ba", 1, 5, "r"))
	// All ways to lay notes into one list, the other one, or both.
	for way := range 729 {
		var a, b []api.Note
		for _, n := range l {
			if way%3 != 0 {
				a = append(a, n)
			}
			if way%3 != 1 {
				b = append(b, n)
			}
			way /= 3
		}
		merged(t, fmt.Sprint(a, b), a, b, l, api.OK)
	}
	merged(t, "nothing", nil, nil, nil, api.OK)
}

// P10.1: different notes with the same Desk and No.
func TestConflicts(t *testing.T) {
	l := notes(put("a", 1, 3, "p", row), move("b", 2, 3, "p", "q", 3, 1, 0), drop("c", 3, 4, "p"))
	for _, n := range []api.Note{
		put("a", 1, 3, "p", row+"\n"), put("a", 1, 3, "q", row), put("a", 1, 4, "p", row), drop("a", 1, 3, "p"), drop("b", 2, 3, "p"),
		move("b", 2, 3, "p", "p", 3, 1, 0), move("b", 2, 3, "p", "q", 2, 1, 0), move("b", 2, 3, "p", "q", 3, 0, 0), move("b", 2, 3, "p", "q", 3, 1, 1), move("b", 2, 3, "q", "q", 3, 1, 0),
		drop("c", 3, 4, "q"), drop("c", 3, 0, "p"),
	} {
		merged(t, fmt.Sprint(n), l, notes(n), nil, api.ErrConflict)
		merged(t, fmt.Sprint(n), l, notes(drop("a", 7, 4, "q"), n, drop("z", 1, 1, "r"))[1:], nil, api.ErrConflict)
	}
	merged(t, "another desk", l, notes(drop("d", 3, 0, "p")), append(notes(l...), drop("d", 3, 0, "p")), api.OK)
}

// P10.1: what is merged is checked at last.
func TestMergedNotesAreChecked(t *testing.T) {
	merged(t, "moments", notes(drop("d", 1, 5, "p"), drop("d", 3, 7, "p")), notes(drop("d", 2, 4, "p")), nil, api.ErrOrder)
	merged(t, "moments", notes(drop("d", 1, 5, "p"), drop("d", 3, 7, "p")), notes(drop("d", 2, 8, "p")), nil, api.ErrOrder)
	merged(t, "moments", notes(drop("d", 1, 5, "p")), notes(drop("d", 2, 4, "p")), nil, api.ErrOrder)
	l := many(api.MaxNotes)
	merged(t, "as many as can be", l, l, l, api.OK)
	merged(t, "as many as can be", l[:120], l[80:], l, api.OK)
	merged(t, "too many", l, notes(drop("e", 1, 0, "p")), nil, api.ErrLarge)
	merged(t, "too many, and moments", l, notes(drop("d", api.MaxNotes+1, 0, "p")), nil, api.ErrLarge)
	merged(t, "too many, and a conflict", l, notes(drop("d", 1, 0, "p"), drop("e", 1, 0, "p")), nil, api.ErrConflict)
	merged(t, "a conflict, and moments", notes(drop("d", 1, 5, "p"), drop("d", 2, 5, "p")), notes(drop("d", 2, 6, "p"), drop("d", 3, 6, "p"), drop("e", 1, 0, "p")), nil, api.ErrConflict)
}

// P10.1: the errors of the first list, then those of the second one, then conflicts.
func TestErrorsOfMerge(t *testing.T) {
	right, name, text := notes(drop("d", 1, 0, "p")), notes(drop("d", 1, 0, "P")), notes(put("d", 1, 0, "p", "?"))
	for _, c := range []struct {
		a, b []api.Note
		want api.Errno
	}{
		{name, text, api.ErrName}, {text, name, api.ErrSyntax}, {right, name, api.ErrName}, {right, text, api.ErrSyntax}, {name, right, api.ErrName}, {text, right, api.ErrSyntax},
		{many(api.MaxNotes + 1), name, api.ErrLarge}, {name, many(api.MaxNotes + 1), api.ErrName}, {right, many(api.MaxNotes + 1), api.ErrLarge},
		{right, notes(drop("d", 1, 1, "p"), drop("d", 1, 1, "p")), api.ErrOrder},
	} {
		m, e := house.Merge(c.a, c.b)
		same(t, fmt.Sprint(c.a, c.b), []any{len(m), e}, []any{0, c.want})
	}
}
