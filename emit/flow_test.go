package emit_test

import (
	"fmt"
	"slices"
	"testing"

	"warpbeam/api"
	"warpbeam/emit"
)

// P7.4: Blocks.
func TestBlocks(t *testing.T) {
	for _, c := range []struct {
		text  string
		first []int
		ways  [][]int
	}{
		{"", nil, nil},
		{"set 0 1", []int{0}, [][]int{nil}},
		{"halt", []int{0}, [][]int{nil}},
		{"set 0 1; set 0 2; halt", []int{0}, [][]int{nil}},
		// Behind the end a block begins, too.
		{"set 0 1; halt; set 0 2; halt", []int{0, 2}, [][]int{nil, nil}},
		{"jump 0", []int{0}, [][]int{{0}}},
		{"set 0 1; jump 0", []int{0}, [][]int{{0}}},
		{"set 0 1; jump 1", []int{0, 1}, [][]int{{1}, {1}}},
		// A block leads to the next one without a jump.
		{"set 0 1; set 0 2; less 0 1 1; halt", []int{0, 1, 3}, [][]int{{1}, {1, 2}, nil}},
		// Blocks have numbers of their own, and each stands once, rising.
		{"set 0 1; set 0 2; less 0 1 7; set 0 3; set 0 4; jump 2; halt; wide 2; halt", []int{0, 2, 3, 6, 7}, [][]int{{1}, {2, 4}, {1}, nil, nil}},
		{"set 0 1; set 0 2; jump 4; halt; less 1 0 0; jump 3", []int{0, 3, 4, 5}, [][]int{{2}, nil, {0, 3}, {1}}},
		{"set 0 1; less 0 1 2; halt", []int{0, 2}, [][]int{{1}, nil}},
		// Behind the last instruction there is no block.
		{"set 0 1; less 0 1 0", []int{0}, [][]int{{0}}},
		{"set 0 1; less 0 1 1", []int{0, 1}, [][]int{{1}, {1}}},
		{"halt; set 0 1; set 0 2", []int{0, 1}, [][]int{nil, nil}},
	} {
		first, ways, e := emit.Blocks(code(t, c.text))
		same(t, c.text, []any{first, ways, e}, []any{c.first, c.ways, api.OK})
	}
}

// P7.4: Trim.
func TestTrim(t *testing.T) {
	for _, c := range []struct{ text, want string }{
		{"", ""},
		{"halt", "halt"},
		{"set 0 1", "set 0 1"},
		{"halt; halt; set 0 1", "halt"},
		{"jump 0; halt", "jump 0"},
		{"jump 2; halt; set 0 1; jump 4; halt", "jump 1; set 0 1; jump 3; halt"},
		// What just leads to what is left is left out, also if it leads to itself.
		{"jump 3; jump 3; jump 2; halt", "jump 1; halt"},
		{"jump 4; set 0 1; less 0 1 1; jump 4; halt", "jump 1; halt"},
		// Both ways of a less are ways.
		{"less 0 1 3; halt; jump 0; set 0 1; halt", "less 0 1 2; halt; set 0 1; halt"},
		{"less 0 1 1; halt", "less 0 1 1; halt"},
		{"jump 4; set 0 1; halt; halt; less 0 1 1", "jump 3; set 0 1; halt; less 0 1 1"},
		// Back, and over what is left out.
		{"set 0 1; jump 5; set 0 2; halt; set 0 3; less 0 1 0; jump 3", "set 0 1; jump 3; halt; less 0 1 0; jump 2"},
	} {
		l, e := emit.Trim(code(t, c.text))
		same(t, c.text, []any{l, e}, []any{code(t, c.want), api.OK})
	}
}

// P7.4: code is that for 20 arrays.
func TestErrorsOfCode(t *testing.T) {
	// A field of each instruction is wrong; the last one jumps behind the code.
	for _, c := range []struct {
		order api.Order
		want  api.Errno
	}{
		{api.Order{}, api.ErrKind}, {api.Order{Do: 17}, api.ErrKind}, {api.Order{Do: api.DoHalt, K: 1}, api.ErrForm}, {api.Order{Do: api.DoSet, A: api.MaxRegs}, api.ErrArg},
		{api.Order{Do: api.DoLoad, K: 20}, api.ErrArg}, {api.Order{Do: api.DoStore, K: -1}, api.ErrArg}, {api.Order{Do: api.DoJump, K: 1}, api.ErrArg},
	} {
		refused(t, []api.Order{c.order}, c.want)
	}
	refused(t, make([]api.Order, api.MaxCode+1), api.ErrLarge)
	l := code(t, "load 0 0 0 19; store 0 0 0 19")
	_, _, e := emit.Blocks(l)
	same(t, "Blocks", e, api.OK)
	d, e := emit.Trim(l)
	same(t, "Trim", []any{d, e}, []any{l, api.OK})
	text, e := emit.Text(l)
	same(t, "Text", []any{text, e}, []any{"load 0 0 0 19\nstore 0 0 0 19\n", api.OK})
}

func refused(t *testing.T, l []api.Order, want api.Errno) {
	t.Helper()
	first, ways, e := emit.Blocks(l)
	same(t, short(fmt.Sprint("Blocks ", l)), []any{first, ways, e}, []any{"[]", "[]", want})
	c, e := emit.Trim(l)
	same(t, short(fmt.Sprint("Trim ", l)), []any{c, e}, []any{"[]", want})
	text, e := emit.Text(l)
	same(t, short(fmt.Sprint("Text ", l)), []any{text, e}, []any{"", want})
}

// ways are the instructions that can be done behind one.
func ways(c []api.Order, at int) []int {
	var l []int
	if c[at].Do == api.DoJump || c[at].Do == api.DoLess {
		l = append(l, c[at].K)
	}
	if c[at].Do != api.DoHalt && c[at].Do != api.DoJump && at+1 < len(c) {
		l = append(l, at+1)
	}
	return l
}

// P7.4: what is left by Trim is what ways lead to, and all ways lead to what they led to.
func TestTrimIsAsNaive(t *testing.T) {
	g := dice(2)
	fewer := 0
	for range 3000 {
		c := g.orders()
		is := make([]bool, len(c))
		is[0] = true
		for range c {
			for i := range c {
				if is[i] {
					for _, to := range ways(c, i) {
						is[to] = true
					}
				}
			}
		}
		var want []api.Order
		for i, o := range c {
			if o.Do == api.DoJump || o.Do == api.DoLess {
				left := 0
				for _, stays := range is[:o.K] {
					if stays {
						left++
					}
				}
				o.K = left
			}
			if is[i] {
				want = append(want, o)
			}
		}
		d, e := emit.Trim(c)
		same(t, fmt.Sprint(c), []any{d, e}, []any{want, api.OK})
		again, _ := emit.Trim(d)
		same(t, fmt.Sprint(d), again, d)
		fewer += len(c) - len(d)
	}
	if fewer < 3000 {
		t.Error("too few are left out", fewer)
	}
}

// P7.4: blocks are entered at their first instructions alone, and left at their last ones alone.
func TestBlocksAreAsNaive(t *testing.T) {
	g := dice(3)
	many := 0
	for range 3000 {
		c := g.orders()
		var first []int
		for i := range c {
			begins := i == 0 || c[i-1].Do == api.DoHalt
			for j, o := range c {
				jumps := o.Do == api.DoJump || o.Do == api.DoLess
				begins = begins || jumps && (o.K == i || j == i-1)
			}
			if begins {
				first = append(first, i)
			}
		}
		var to [][]int
		for b := range first {
			last := len(c)
			if b+1 < len(first) {
				last = first[b+1]
			}
			var l []int
			for other, i := range first {
				if slices.Contains(ways(c, last-1), i) {
					l = append(l, other)
				}
			}
			to = append(to, l)
		}
		gotFirst, gotTo, e := emit.Blocks(c)
		same(t, fmt.Sprint(c), []any{gotFirst, gotTo, e}, []any{first, to, api.OK})
		many += len(first)
	}
	if many < 8000 {
		t.Error("too few blocks", many)
	}
}
