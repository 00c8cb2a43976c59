package depend

import (
	"warpbeam/api"
)

// web is the statements of a program (by their places in it), to which of them ways of arrows lead, and which of them are in groups already.
type web struct {
	names []string
	leads [][]bool
	taken []bool
}

func newWeb(names []string, arrows []api.Arrow) *web {
	places := map[string]int{}
	for i, name := range names {
		places[name] = i
	}
	next := make([][]int, len(names))
	for _, a := range arrows {
		from := places[a.From]
		next[from] = append(next[from], places[a.To])
	}
	w := &web{names: names, taken: make([]bool, len(names))}
	for i := range names {
		w.leads = append(w.leads, reached(next, i))
	}
	return w
}

// reached tells to which places ways lead from one; to itself one always does.
func reached(next [][]int, from int) []bool {
	is := make([]bool, len(next))
	is[from] = true
	for open := []int{from}; len(open) > 0; {
		last := len(open) - 1
		at := open[last]
		open = open[:last]
		for _, to := range next[at] {
			if !is[to] {
				is[to] = true
				open = append(open, to)
			}
		}
	}
	return is
}

// together reports whether two statements belong to one group.
func (w *web) together(a, b int) bool { return w.leads[a][b] && w.leads[b][a] }

// next is the first statement that is in no group yet, and to whose group no way leads from another such one; none if there is no such one.
func (w *web) next() int {
	for s := range w.names {
		if !w.taken[s] && w.isFree(s) {
			return s
		}
	}
	return none
}

// isFree reports whether all ways to a statement begin in its group or in those that are taken.
func (w *web) isFree(s int) bool {
	for from := range w.names {
		if w.leads[from][s] && !w.taken[from] && !w.together(from, s) {
			return false
		}
	}
	return true
}

// take takes the group of a statement.
func (w *web) take(s int) []string {
	var group []string
	for i, name := range w.names {
		if w.together(i, s) {
			w.taken[i] = true
			group = append(group, name)
		}
	}
	return group
}
