package house

import (
	"cmp"
	"slices"

	"warpbeam/api"
	"warpbeam/nest"
)

// checkNote says what is wrong with a note by itself.
func checkNote(n api.Note) api.Errno {
	switch {
	case !isKey(n.Desk):
		return api.ErrName
	case n.No < 1 || n.No > api.MaxNo || !isMoment(n.At):
		return api.ErrArg
	case n.Kind < api.NotePut || n.Kind > api.NoteDrop:
		return api.ErrKind
	case n != bare(n):
		return api.ErrForm
	case !isName(n.Name) || n.Kind == api.NoteMove && !isName(n.Of):
		return api.ErrName
	case n.Kind == api.NotePut:
		_, _, e := nest.Read(n.Text)
		return e
	case n.Kind == api.NoteMove:
		return checkMove(n.Move)
	}
	return api.OK
}

// bare is a note with just the fields that its Kind uses.
func bare(n api.Note) api.Note {
	b := api.Note{Desk: n.Desk, No: n.No, At: n.At, Kind: n.Kind, Name: n.Name}
	switch n.Kind {
	case api.NotePut:
		b.Text = n.Text
	case api.NoteMove:
		b.Of, b.Move = n.Of, n.Move
	}
	return b
}

// checkMove says what is wrong with a move, whatever program it is for.
func checkMove(m api.Move) api.Errno {
	switch {
	case m.Kind < api.MoveExchange || m.Kind > api.MoveSkew:
		return api.ErrKind
	case m.Loop < 0 || m.Loop > api.MaxSteps || m.Arg < -api.MaxConst || m.Arg > api.MaxConst:
		return api.ErrArg
	}
	return api.OK
}

// byNumber compares notes by Desk, then No.
func byNumber(a, b api.Note) int {
	return cmp.Or(cmp.Compare(a.Desk, b.Desk), cmp.Compare(a.No, b.No))
}

// follows reports whether a note can come next behind another one.
func follows(n, before api.Note) bool {
	return byNumber(before, n) < 0 && (n.Desk != before.Desk || n.At >= before.At)
}

// together are the notes of both lists, by Desk and No.
func together(a, b []api.Note) []api.Note {
	l := slices.Concat(a, b)
	slices.SortStableFunc(l, byNumber)
	return l
}

// differ reports whether two notes next to each other have the same Desk and No.
func differ(l []api.Note) bool {
	for i := 1; i < len(l); i++ {
		if byNumber(l[i-1], l[i]) == 0 {
			return true
		}
	}
	return false
}

// isKey reports whether a string can be the key of a desk.
func isKey(s string) bool {
	if len(s) < 1 || len(s) > api.MaxName || !isLetter(s[0]) {
		return false
	}
	for i := range len(s) {
		if b := s[i]; !isLetter(b) && (b < '0' || b > '9') && b != '-' && b != '_' {
			return false
		}
	}
	return true
}

func isLetter(b byte) bool { return 'a' <= b && b <= 'z' }

func isMoment(n int) bool { return 0 <= n && n < api.End }

// isName reports whether a string can be the name of a program: the same strings can be variables.
func isName(s string) bool {
	return nest.CheckForm(api.Form{Terms: []api.Term{{Name: s, Coef: 1}}}) == api.OK
}
