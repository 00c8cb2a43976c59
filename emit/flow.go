package emit

import (
	"slices"

	"warpbeam/api"
)

// next are the numbers of the instructions that can be done behind one of checked code; that behind the last one is none of them.
func next(c []api.Order, at int) []int {
	var l []int
	switch c[at].Do {
	case api.DoHalt:
		return nil
	case api.DoJump:
		return []int{c[at].K}
	case api.DoLess:
		l = append(l, c[at].K)
	}
	if at+1 < len(c) {
		l = append(l, at+1)
	}
	return l
}

// isEnd reports whether a block ends with an instruction, whatever is behind it.
func isEnd(o api.Order) bool {
	return o.Do == api.DoHalt || isJump(o)
}

// isJump reports whether K is the number of an instruction.
func isJump(o api.Order) bool {
	return o.Do == api.DoJump || o.Do == api.DoLess
}

// firsts are the numbers of the first instructions of all blocks.
func firsts(c []api.Order) []int {
	begins := make([]bool, len(c)+1)
	begins[0] = true
	for i, o := range c {
		if isEnd(o) {
			begins[i+1] = true
		}
		if isJump(o) {
			begins[o.K] = true
		}
	}
	var l []int
	for i := range c {
		if begins[i] {
			l = append(l, i)
		}
	}
	return l
}

// waysOf are, for each block, the blocks to which it leads.
func waysOf(c []api.Order, first []int) [][]int {
	blocks := map[int]int{}
	for b, i := range first {
		blocks[i] = b
	}
	var ways [][]int
	for b := range first {
		last := len(c) - 1
		if b+1 < len(first) {
			last = first[b+1] - 1
		}
		var to []int
		for _, i := range next(c, last) {
			to = append(to, blocks[i])
		}
		slices.Sort(to)
		ways = append(ways, slices.Compact(to))
	}
	return ways
}

// reached says of each instruction whether a way leads to it from the first one.
func reached(c []api.Order) []bool {
	seen := make([]bool, len(c))
	var open []int
	visit := func(at int) {
		if !seen[at] {
			seen[at] = true
			open = append(open, at)
		}
	}
	if len(c) > 0 {
		visit(0)
	}
	for len(open) > 0 {
		at := open[len(open)-1]
		open = open[:len(open)-1]
		for _, i := range next(c, at) {
			visit(i)
		}
	}
	return seen
}

// trimmed is checked code without the instructions to which no way leads.
func trimmed(c []api.Order) []api.Order {
	stays := reached(c)
	numbers := make([]int, len(c))
	var l []api.Order
	for i, o := range c {
		numbers[i] = len(l)
		if stays[i] {
			l = append(l, o)
		}
	}
	for i, o := range l {
		if isJump(o) {
			l[i].K = numbers[o.K]
		}
	}
	return l
}
