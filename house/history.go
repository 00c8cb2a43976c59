package house

import (
	"cmp"
	"slices"

	"warpbeam/api"
	"warpbeam/nest"
	"warpbeam/shape"
)

// work is a program with the indices of the notes of which it was made.
type work struct {
	program api.Program
	way     []int
}

// history is checked notes up to a moment. What they make is found when it is asked for, so notes that nothing hangs on cost nothing.
type history struct {
	notes []api.Note
	order []int         // the indices of the notes that count, in their order
	known map[int]*work // what notes make, by their places in the order: nil if they change nothing
}

// historyOf is the history of checked notes up to a moment.
func historyOf(l []api.Note, at int) *history {
	h := &history{notes: l, known: map[int]*work{}}
	for i, n := range l {
		if n.At <= at {
			h.order = append(h.order, i)
		}
	}
	// Notes stand by Desk, then No: at one moment they stay like this.
	slices.SortStableFunc(h.order, func(i, k int) int { return cmp.Compare(l[i].At, l[k].At) })
	return h
}

// note is the one with a place in the order.
func (h *history) note(place int) api.Note { return h.notes[h.order[place]] }

// last is what a name is behind all notes; nil if it is no program.
func (h *history) last(name string) *work { return h.before(name, len(h.order)) }

// before is what a name is before the note with a place in the order; nil if it is no program.
func (h *history) before(name string, place int) *work {
	for place--; place >= 0; place-- {
		n := h.note(place)
		if n.Name != name {
			continue
		}
		if n.Kind == api.NoteDrop {
			return nil
		}
		if w := h.made(place); w != nil {
			return w
		}
	}
	return nil
}

// made is what a note makes; nil if it changes nothing. It is done just once, as many notes can hang on it.
func (h *history) made(place int) *work {
	w, is := h.known[place]
	if is {
		return w
	}
	n := h.note(place)
	if n.Kind == api.NotePut {
		// The note is checked, so there is no error.
		p, _, _ := nest.Read(n.Text)
		w = &work{program: p}
	} else {
		w = moved(h.before(n.Of, place), n.Move)
	}
	if w != nil {
		w.way = append(w.way, h.order[place])
	}
	h.known[place] = w
	return w
}

// names are those that are programs behind all notes, rising.
func (h *history) names() []string {
	asked := map[string]bool{}
	var l []string
	for place := range h.order {
		name := h.note(place).Name
		if !asked[name] && h.last(name) != nil {
			l = append(l, name)
		}
		asked[name] = true
	}
	slices.Sort(l)
	return l
}

// moved is what a move makes, with the way up to it; nil if it makes nothing.
func moved(of *work, m api.Move) *work {
	if of == nil {
		return nil
	}
	p, e := shape.Do(of.program, m)
	if e != api.OK {
		return nil
	}
	return &work{program: p, way: slices.Clone(of.way)}
}
