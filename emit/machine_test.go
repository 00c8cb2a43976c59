package emit_test

import (
	"fmt"
	"strings"
	"testing"

	"warpbeam/api"
	"warpbeam/emit"
)

// P7.2: CheckCode, one instruction at a time; it is the last one of ten.
func TestCheckCodeOfFields(t *testing.T) {
	check := func(o api.Order, want api.Errno) {
		t.Helper()
		l := make([]api.Order, 10)
		for i := range l {
			l[i] = api.Order{Do: api.DoHalt}
		}
		l[9] = o
		same(t, fmt.Sprint(o), emit.CheckCode(l, 3), want)
	}
	for _, k := range kinds() {
		for i, field := range k.fields {
			low, high := k.low[i], k.high[i]
			for _, n := range []int{low, high, (low + high) / 2} {
				o := k.least()
				*fieldOf(&o, field) = n
				check(o, api.OK)
			}
			for _, n := range append(extremes(), low-1, high+1) {
				o := k.least()
				*fieldOf(&o, field) = n
				check(o, api.ErrArg)
			}
		}
		for _, field := range "ABCK" {
			if strings.ContainsRune(k.fields, field) {
				continue
			}
			for _, n := range append(extremes(), 1, -1) {
				o := k.least()
				*fieldOf(&o, field) = n
				check(o, api.ErrForm)
				// A field too much goes before a number out of its range.
				if k.fields != "" {
					*fieldOf(&o, rune(k.fields[0])) = -9_000_000
					check(o, api.ErrForm)
				}
			}
		}
	}
	for _, do := range append(extremes(), 0, -1, 17, 18) {
		check(api.Order{Do: do}, api.ErrKind)
		check(api.Order{Do: do, A: 1, B: -1, C: 200, K: 9}, api.ErrKind)
	}
}

func TestCheckCode(t *testing.T) {
	check := func(c []api.Order, arrays int, want api.Errno) {
		t.Helper()
		same(t, fmt.Sprint(len(c), arrays), emit.CheckCode(c, arrays), want)
	}
	check(nil, 0, api.OK)
	load := []api.Order{{Do: api.DoLoad, K: 0}, {Do: api.DoStore, K: 4}}
	check(load, 5, api.OK)
	check(load, 4, api.ErrArg)
	check(load[:1], 1, api.OK)
	for _, arrays := range append(extremes()[2:], 0, -1) {
		check(load[:1], arrays, api.ErrArg)
	}
	check(load, extremes()[0], api.OK)
	// Each instruction by itself goes through all of its errors.
	check([]api.Order{{Do: api.DoHalt, A: 1}, {Do: -1}}, 1, api.ErrForm)
	check([]api.Order{{Do: api.DoSet, A: -1}, {Do: -1}}, 1, api.ErrArg)
	check([]api.Order{{Do: -1}, {Do: api.DoHalt, A: 1}}, 1, api.ErrKind)
	check([]api.Order{{Do: api.DoJump, K: 1}}, 1, api.ErrArg)
	check([]api.Order{{Do: api.DoJump, K: 1}, {Do: api.DoHalt}}, 1, api.OK)
	long := make([]api.Order, api.MaxCode+1)
	check(long, 1, api.ErrLarge)
	check(long[1:], 1, api.ErrKind)
	for i := range long {
		long[i] = api.Order{Do: api.DoJump, K: api.MaxCode - 1}
	}
	check(long[1:], 0, api.OK)
	check(long, 0, api.ErrLarge)
}

// cells is a program with arrays alone; b is the array 0, and a the array 1.
const cells = "array b[6]; array a[2, 2];"

// P7.2: what each instruction does.
func TestInstructions(t *testing.T) {
	p := program(t, cells)
	in := grids(grid("b", 10, 11, 12, 13, 14, 15))
	for _, c := range []struct{ text, want string }{
		{"halt", "a [0 0 0 0] b [10 11 12 13 14 15] in 1"},
		// Registers are 0 at first, vectors have one value.
		{"store 7 99 98 0; halt", "a [0 0 0 0] b [0 11 12 13 14 15] in 2"},
		{"set 1 5; take 0 1; set 2 1; store 0 2 0 1; halt", "a [0 5 0 0] b [10 11 12 13 14 15] in 5"},
		{"set 1 7; set 2 -3; add 3 1 2; take 0 3; store 0 0 0 1; halt", "a [4 0 0 0] b [10 11 12 13 14 15] in 6"},
		{"set 1 7; set 2 -3; sub 3 1 2; take 0 3; store 0 0 0 1; halt", "a [10 0 0 0] b [10 11 12 13 14 15] in 6"},
		{"set 1 7; sub 1 0 1; take 0 1; store 0 0 0 1; halt", "a [999996 0 0 0] b [10 11 12 13 14 15] in 5"},
		{"set 1 7; mul 1 1 -3; take 0 1; store 0 0 0 1; halt", "a [999982 0 0 0] b [10 11 12 13 14 15] in 5"},
		{"set 1 7; div 1 1 3; take 0 1; store 0 0 0 1; halt", "a [2 0 0 0] b [10 11 12 13 14 15] in 5"},
		// Rounded down, and not to 0.
		{"set 1 -7; div 1 1 3; take 0 1; store 0 0 0 1; halt", "a [1000000 0 0 0] b [10 11 12 13 14 15] in 5"},
		{"set 1 -6; div 1 1 3; take 0 1; store 0 0 0 1; halt", "a [1000001 0 0 0] b [10 11 12 13 14 15] in 5"},
		{"jump 2; halt; store 0 0 0 0; jump 1", "a [0 0 0 0] b [0 11 12 13 14 15] in 4"},
		{"set 1 1; less 0 1 3; store 0 1 0 0; halt", "a [0 0 0 0] b [10 11 12 13 14 15] in 3"},
		{"set 1 1; less 1 0 3; store 0 1 0 0; halt", "a [0 0 0 0] b [10 0 12 13 14 15] in 4"},
		{"less 0 1 2; store 0 1 0 0; halt", "a [0 0 0 0] b [0 11 12 13 14 15] in 3"},
		{"set 1 -1; less 1 0 3; store 0 0 0 0; halt", "a [0 0 0 0] b [10 11 12 13 14 15] in 3"},
		// Cells, some of them apart.
		{"set 1 4; load 3 1 0 0; store 3 0 0 1; halt", "a [14 0 0 0] b [10 11 12 13 14 15] in 4"},
		{"wide 3; set 1 1; set 2 2; load 3 1 2 0; store 3 0 1 1; halt", "a [11 13 15 0] b [10 11 12 13 14 15] in 6"},
		{"wide 3; set 1 5; set 2 -2; load 3 1 2 0; set 1 1; store 3 0 1 1; halt", "a [15 13 11 0] b [10 11 12 13 14 15] in 7"},
		{"wide 4; set 1 3; load 3 1 0 0; set 1 1; store 3 0 1 1; halt", "a [13 13 13 13] b [10 11 12 13 14 15] in 6"},
		// The last one of values for one cell stays.
		{"wide 3; set 1 1; load 3 0 1 0; store 3 0 0 1; halt", "a [12 0 0 0] b [10 11 12 13 14 15] in 5"},
		{"wide 4; set 1 1; count 0 1 1; store 0 0 1 1; halt", "a [1 2 3 4] b [10 11 12 13 14 15] in 5"},
		{"wide 4; set 1 3; set 2 -2; count 0 1 2; set 1 1; store 0 0 1 1; halt", "a [3 1 1000002 1000000] b [10 11 12 13 14 15] in 7"},
		{"wide 4; set 1 -1; take 0 1; set 1 1; store 0 0 1 1; halt", "a [1000002 1000002 1000002 1000002] b [10 11 12 13 14 15] in 6"},
		{"set 1 1000000; add 1 1 1; take 0 1; store 0 0 0 1; halt", "a [999997 0 0 0] b [10 11 12 13 14 15] in 5"},
		// Values are computed modulo Prime.
		{"set 1 1000000; take 0 1; set 1 5; take 1 1; plus 2 0 1; store 2 0 0 1; halt", "a [2 0 0 0] b [10 11 12 13 14 15] in 7"},
		{"set 1 3; take 0 1; set 1 5; take 1 1; minus 2 0 1; store 2 0 0 1; halt", "a [1000001 0 0 0] b [10 11 12 13 14 15] in 7"},
		{"set 1 1000000; take 0 1; times 0 0 0; store 0 0 0 1; halt", "a [9 0 0 0] b [10 11 12 13 14 15] in 5"},
		{"wide 4; set 1 1; load 0 0 1 0; load 1 1 1 0; times 2 0 1; store 2 0 1 1; halt", "a [110 132 156 182] b [10 11 12 13 14 15] in 7"},
		{"wide 4; set 1 1; load 0 0 1 0; load 1 1 1 0; minus 0 0 1; store 0 0 1 1; halt", "a [1000002 1000002 1000002 1000002] b [10 11 12 13 14 15] in 7"},
		{"wide 4; set 1 1; load 0 0 1 0; load 1 1 1 0; plus 1 0 1; store 1 0 1 1; halt", "a [21 23 25 27] b [10 11 12 13 14 15] in 7"},
		// Of more values the first ones count, and those that are missing are 0.
		{"wide 4; set 1 1; count 0 1 1; wide 2; store 0 0 1 1; halt", "a [1 2 0 0] b [10 11 12 13 14 15] in 6"},
		{"wide 2; set 1 1; count 0 1 1; wide 4; store 0 0 1 0; halt", "a [0 0 0 0] b [1 2 0 0 14 15] in 6"},
		{"wide 4; set 1 1; count 0 1 1; wide 2; wide 4; store 0 0 1 1; halt", "a [1 2 3 4] b [10 11 12 13 14 15] in 7"},
		{"wide 4; set 1 1; count 0 1 1; wide 2; plus 0 0 0; wide 4; store 0 0 1 0; halt", "a [0 0 0 0] b [2 4 0 0 14 15] in 8"},
		{"wide 4; set 1 1; count 0 1 1; wide 2; load 0 0 1 0; wide 4; store 0 0 1 1; halt", "a [10 11 0 0] b [10 11 12 13 14 15] in 8"},
		{"wide 4; set 1 1; count 0 1 1; wide 2; take 0 1; wide 4; store 0 0 1 0; halt", "a [0 0 0 0] b [1 1 0 0 14 15] in 8"},
		{"wide 2; set 1 1; count 0 1 1; wide 3; count 1 1 1; times 2 0 1; store 2 0 1 1; halt", "a [1 4 0 0] b [10 11 12 13 14 15] in 8"},
		{"wide 2; count 0 1 1; set 1 1; wide 3; count 1 1 1; minus 2 0 1; store 2 0 1 1; halt", "a [1000002 1000001 1000000 0] b [10 11 12 13 14 15] in 8"},
		// Registers with the greatest numbers.
		{"set 99 3; take 59 99; set 98 1; store 59 98 97 1; halt", "a [0 3 0 0] b [10 11 12 13 14 15] in 5"},
	} {
		same(t, c.text, ran(p, code(t, c.text), in, 100), c.want)
	}
}

// P7.2: errors of a run.
func TestErrorsWhileRunning(t *testing.T) {
	p := program(t, cells)
	for _, c := range []struct {
		text string
		want string
	}{
		{"set 1 4; load 0 1 0 1; halt", "error 16"},
		{"set 1 -1; load 0 1 0 1; halt", "error 16"},
		{"set 1 3; load 0 1 0 1; halt", "a [0 0 0 0] b [0 0 0 0 0 0] in 3"},
		{"set 1 4; store 0 1 0 1; halt", "error 16"},
		{"set 1 -1; store 0 1 0 1; halt", "error 16"},
		{"set 1 5; store 0 1 0 0; halt", "a [0 0 0 0] b [0 0 0 0 0 0] in 3"},
		{"set 1 6; store 0 1 0 0; halt", "error 16"},
		// The last cell of a vector counts, too, also if its value is missing.
		{"wide 4; set 1 1; load 0 1 1 1; halt", "error 16"},
		{"wide 4; set 1 1; load 0 0 1 1; halt", "a [0 0 0 0] b [0 0 0 0 0 0] in 4"},
		{"wide 4; set 1 1; store 0 1 1 1; halt", "error 16"},
		{"wide 4; set 1 -1; set 2 2; store 0 2 1 1; halt", "error 16"},
		{"wide 16; set 1 1000000; mul 1 1 1000000; mul 1 1 1000; load 0 0 1 1; halt", "error 16"},
		// 10^15 is a number of a register, and -10^15, but no greater one.
		{"set 1 1000000; mul 1 1 1000000; mul 1 1 1000; halt", "a [0 0 0 0] b [0 0 0 0 0 0] in 4"},
		{"set 1 1000000; mul 1 1 1000000; mul 1 1 -1000; halt", "a [0 0 0 0] b [0 0 0 0 0 0] in 4"},
		{"set 1 1000000; mul 1 1 1000000; mul 1 1 1001; halt", "error 1"},
		{"set 1 1000000; mul 1 1 1000000; mul 1 1 -1001; halt", "error 1"},
		{"set 1 1000000; mul 1 1 1000000; mul 1 1 1000; set 2 1; add 1 1 2; halt", "error 1"},
		{"set 1 1000000; mul 1 1 1000000; mul 1 1 1000; set 2 1; sub 1 1 2; halt", "a [0 0 0 0] b [0 0 0 0 0 0] in 6"},
		{"set 1 1000000; mul 1 1 1000000; mul 1 1 -1000; set 2 1; sub 1 1 2; halt", "error 1"},
		{"set 1 1000000; mul 1 1 1000000; mul 1 1 -1000; set 2 1; add 1 1 2; halt", "a [0 0 0 0] b [0 0 0 0 0 0] in 6"},
		// Products that are too great for an int, too.
		{"set 1 1000000; mul 1 1 1000000; mul 1 1 1000; mul 1 1 1000000; halt", "error 1"},
		{"set 1 1000000; mul 1 1 1000000; mul 1 1 1000; mul 1 1 -18447; halt", "error 1"},
		{"set 1 1000000; mul 1 1 1000000; mul 1 1 1000; mul 1 1 0; take 0 1; store 0 0 0 1; halt", "a [0 0 0 0] b [0 0 0 0 0 0] in 7"},
		{"set 1 -1000000; mul 1 1 1000000; mul 1 1 1000; mul 1 1 18447; halt", "error 1"},
		{"set 1 1000000; mul 1 1 1000000; mul 1 1 1000; div 1 1 1000; div 1 1 1000; take 0 1; store 0 0 0 1; halt", "a [997003 0 0 0] b [0 0 0 0 0 0] in 8"},
		// Counted numbers are none of a register.
		{"wide 2; set 1 1000000; mul 1 1 1000000; mul 1 1 1000; count 0 1 1; set 1 1; store 0 0 1 1; halt", "a [9000 18000 0 0] b [0 0 0 0 0 0] in 8"},
		{"", "error 11"},
		{"set 1 1", "error 11"},
		{"less 0 1 0", "error 11"},
		{"jump 2; halt; set 1 1", "error 11"},
	} {
		same(t, c.text, ran(p, code(t, c.text), nil, 100), c.want)
	}
}

// P7.2: each instruction costs 1, and so does the last one.
func TestFuel(t *testing.T) {
	p := program(t, cells)
	c := code(t, "wide 2; set 1 3; sub 2 0 1; less 2 0 5; halt; add 2 2 1; jump 3")
	same(t, "enough", ran(p, c, nil, 8), "a [0 0 0 0] b [0 0 0 0 0 0] in 8")
	for fuel := range 8 {
		same(t, fmt.Sprint(fuel), ran(p, c, nil, fuel), "error 12")
	}
	same(t, "halt", ran(p, code(t, "halt"), nil, 0), "error 12")
	same(t, "halt", ran(p, code(t, "halt"), nil, 1), "a [0 0 0 0] b [0 0 0 0 0 0] in 1")
	// To come behind the last instruction costs nothing.
	same(t, "behind", ran(p, c[:2], nil, 2), "error 11")
	same(t, "behind", ran(p, c[:2], nil, 1), "error 12")
	same(t, "behind", ran(p, nil, nil, 0), "error 11")
	endless := code(t, "jump 0")
	same(t, "endless", ran(p, endless, nil, api.MaxFuel), "error 12")
}

// P7.2: errors of Run, each of which goes before the next one.
func TestErrorsOfRun(t *testing.T) {
	p := program(t, "array a[2]; array b[3]; s: a[7] = 1;")
	bad := grids(grid("A"))
	for _, x := range wrongs() {
		same(t, "program", ran(x.program, make([]api.Order, api.MaxCode+1), bad, -1), fmt.Sprint("error ", int(x.want)))
	}
	same(t, "code", ran(p, make([]api.Order, api.MaxCode+1), bad, -1), "error 2")
	same(t, "code", ran(p, []api.Order{{}}, bad, -1), "error 4")
	same(t, "code", ran(p, code(t, "load 0 0 0 2"), bad, -1), "error 1")
	same(t, "code", ran(p, code(t, "load 0 0 0 1; halt"), nil, 9), "a [0 0] b [0 0 0] in 2")
	for _, c := range []struct {
		in   []api.Grid
		want int
	}{
		{bad, 5}, {grids(grid("b", 1, 2, 3), grid("a", 1, 2)), 7}, {grids(grid("a", 1, 2), grid("a", 1, 2)), 7},
		{grids(grid("c", 1)), 8}, {grids(grid("a", 1)), 3}, {grids(grid("a", 1, 2, 3)), 3}, {grids(grid("a", 1, api.Prime)), 1}, {grids(grid("a", -1, 0)), 1},
	} {
		same(t, fmt.Sprint(c.in), ran(p, code(t, "halt"), c.in, -1), fmt.Sprint("error ", c.want))
	}
	for _, fuel := range append(extremes(), -1, api.MaxFuel+1) {
		same(t, fmt.Sprint(fuel), ran(p, code(t, "load 0 0 0 1; set 1 9; load 0 1 0 0"), nil, fuel), "error 1")
	}
	// What the program would do does not count.
	same(t, "all", ran(p, code(t, "halt"), grids(grid("b", 1, 2, 3)), api.MaxFuel), "a [0 0] b [1 2 3] in 1")
	same(t, "nothing", ran(program(t, ""), code(t, "halt"), nil, api.MaxFuel), "in 1")
}

// naive is the machine, just as the chapter says it: each vector is a list of its own length.
type naive struct {
	numbers [api.MaxRegs]int
	vectors [api.MaxVecs][]int
	wide    int
	cells   map[int][]int // of the arrays, by number
	stores  map[int]int   // how many stores there were of so many values
}

func naiveOf(p api.Program, g []api.Grid) *naive {
	m := &naive{wide: 1, cells: map[int][]int{}, stores: map[int]int{}}
	for i, a := range p.Arrays {
		n := 1
		for _, size := range a.Sizes {
			n *= size
		}
		m.cells[i] = make([]int, n)
		for _, x := range g {
			if x.Key == a.Key {
				copy(m.cells[i], x.Values)
			}
		}
	}
	return m
}

// list is the values of a vector, as many as vectors have now.
func (m *naive) list(v int) []int {
	var l []int
	for i := range m.wide {
		n := 0
		if i < len(m.vectors[v]) {
			n = m.vectors[v][i]
		}
		l = append(l, n)
	}
	return l
}

// each makes a vector of what is told for each of its values.
func (m *naive) each(value func(i int) int) []int {
	var l []int
	for i := range m.wide {
		l = append(l, ((value(i)%api.Prime)+api.Prime)%api.Prime)
	}
	return l
}

// run does code, and returns how many instructions were done.
func (m *naive) run(c []api.Order, fuel int) (int, api.Errno) {
	at, done := 0, 0
	for {
		if at >= len(c) {
			return 0, api.ErrState
		}
		if done >= fuel {
			return 0, api.ErrFull
		}
		done++
		o := c[at]
		at++
		r, v := &m.numbers, &m.vectors
		switch o.Do {
		case api.DoHalt:
			return done, api.OK
		case api.DoSet:
			r[o.A] = o.K
		case api.DoAdd:
			r[o.A] = r[o.B] + r[o.C]
		case api.DoSub:
			r[o.A] = r[o.B] - r[o.C]
		case api.DoMul:
			if float64(r[o.B])*float64(o.K) > 2e15 || float64(r[o.B])*float64(o.K) < -2e15 {
				return 0, api.ErrArg
			}
			r[o.A] = r[o.B] * o.K
		case api.DoDiv:
			n := r[o.B]
			for n%o.K != 0 {
				n--
			}
			r[o.A] = n / o.K
		case api.DoJump:
			at = o.K
		case api.DoLess:
			if r[o.A] < r[o.B] {
				at = o.K
			}
		case api.DoLoad, api.DoStore:
			if e := m.access(o); e != api.OK {
				return 0, e
			}
		case api.DoTake:
			v[o.A] = m.each(func(int) int { return r[o.B] })
		case api.DoCount:
			v[o.A] = m.each(func(i int) int { return r[o.B] + i*r[o.C] })
		case api.DoPlus, api.DoMinus, api.DoTimes:
			x, y := m.list(o.B), m.list(o.C)
			v[o.A] = m.each(func(i int) int {
				return []int{x[i] + y[i], x[i] - y[i], x[i] * y[i]}[o.Do-api.DoPlus]
			})
		case api.DoWide:
			m.wide = o.K
		}
		if n := r[o.A]; n > 1e15 || n < -1e15 {
			return 0, api.ErrArg
		}
	}
}

func (m *naive) access(o api.Order) api.Errno {
	l := m.list(o.A)
	for i := range m.wide {
		at := m.numbers[o.B] + i*m.numbers[o.C]
		if at < 0 || at >= len(m.cells[o.K]) {
			return api.ErrRule
		}
		if o.Do == api.DoLoad {
			l[i] = m.cells[o.K][at]
		} else {
			m.cells[o.K][at] = l[i]
		}
	}
	if o.Do == api.DoLoad {
		m.vectors[o.A] = l
	} else {
		m.stores[m.wide]++
	}
	return api.OK
}

// orders makes any code, of few registers, for three arrays.
func (g *gen) orders() []api.Order {
	var l []api.Order
	many := 1 + g.below(30)
	for range many {
		// Most of what is computed stays small, so that cells are found.
		switch kind := g.below(24); {
		case kind < 4:
			l = append(l, api.Order{Do: api.DoSet, A: g.below(5), K: g.below(5) - 1})
		case kind < 8:
			l = append(l, api.Order{Do: api.DoCount, A: g.below(4), B: g.below(5), C: g.below(5)})
		case kind == 8:
			// A number at its limit, or beyond it.
			r := g.below(3)
			l = append(l, api.Order{Do: api.DoSet, A: r, K: 1_000_000}, api.Order{Do: api.DoMul, A: r, B: r, K: 1_000_000})
			l = append(l, api.Order{Do: api.DoMul, A: r, B: r, K: []int{1_000, -1_000, 1_001}[g.below(3)]})
		default:
			l = append(l, g.order(many))
		}
	}
	return l
}

func (g *gen) order(many int) api.Order {
	k := kinds()[g.below(16)]
	if k.do == api.DoHalt && g.below(3) > 0 {
		k = kinds()[8+g.below(8)]
	}
	o := api.Order{Do: k.do}
	for _, field := range k.fields {
		n := fieldOf(&o, field)
		*n = g.below(4)
		if field != 'K' {
			continue
		}
		switch k.do {
		case api.DoJump, api.DoLess:
			*n = g.below(many)
		case api.DoLoad, api.DoStore:
			*n = g.below(3)
		case api.DoMul, api.DoSet:
			*n = []int{-1, 2, 3, 1_000_000, -999_999}[g.below(5)]
		default:
			*n = 1 + g.below(4)
		}
	}
	return o
}

// P7.2: any code does what the chapter says. P7.4: so does it when it is trimmed.
func TestRunsAreAsNaive(t *testing.T) {
	g := dice(1)
	p := program(t, "array c[40]; array b[3, 20]; array a[50];")
	count := map[api.Errno]int{}
	for range 30_000 {
		c, fuel, in := g.orders(), g.below(200), g.grids(p)
		m := naiveOf(p, in)
		n, e := m.run(c, fuel)
		want := fmt.Sprint("a ", m.cells[2], " b ", m.cells[1], " c ", m.cells[0], " in ", n)
		if e != api.OK {
			want = fmt.Sprint("error ", int(e))
		}
		same(t, fmt.Sprint(c, fuel), ran(p, c, in, fuel), want)
		d, e2 := emit.Trim(c)
		same(t, fmt.Sprint(c), e2, api.OK)
		same(t, fmt.Sprint(c, " trimmed ", d), ran(p, d, in, fuel), want)
		count[e]++
	}
	for _, e := range []api.Errno{api.OK, api.ErrRule, api.ErrArg, api.ErrState, api.ErrFull} {
		if count[e] < 200 {
			t.Error("too few runs with", e, count)
		}
	}
}
