package emit_test

import (
	"fmt"
	"math"
	"strings"
	"testing"

	"warpbeam/api"
	"warpbeam/emit"
	"warpbeam/nest"
	"warpbeam/run"
	"warpbeam/schedule"
)

// walk counts what a run comes to.
type walk struct {
	all      int    // that may cost 40 instructions each
	wide     int    // how many values vectors have
	parallel []bool // of the times of Original
	loops    int    // times that a loop which is done with vectors is come to
	single   int    // statements done by themselves
	vectors  int    // statements done with vectors
}

func walkOf(t *testing.T, p api.Program, wide int) *walk {
	t.Helper()
	w := &walk{wide: wide}
	if wide > 1 {
		l, e := schedule.Original(p)
		same(t, "Original", e, api.OK)
		w.parallel, e = schedule.Parallel(p, l)
		same(t, "Parallel", e, api.OK)
	}
	w.steps(p.Steps, nil)
	return w
}

func (w *walk) form(f api.Form) { w.all += 1 + len(f.Terms) }

func (w *walk) forms(l []api.Form) {
	for _, f := range l {
		w.form(f)
	}
}

func (w *walk) expr(x api.Expr) {
	w.all++
	w.form(x.Form)
	w.forms(x.Subs)
	for _, y := range x.Args {
		w.expr(y)
	}
}

// value is that of a form; x is in the order of the loops, whose names rise.
func value(f api.Form, x api.Point) int {
	n, _ := nest.Value(f, x)
	return n
}

func (w *walk) steps(l []api.Step, x api.Point) {
	for _, s := range l {
		w.all++
		switch s.Kind {
		case api.StepLoop:
			w.loop(s, x)
		case api.StepIf:
			w.forms(s.Conds)
			holds := true
			for _, f := range s.Conds {
				holds = holds && value(f, x) >= 0
			}
			if holds {
				w.steps(s.Body, x)
			}
		case api.StepSet:
			w.forms(s.Subs)
			w.expr(s.Expr)
			w.single++
		}
	}
}

func (w *walk) loop(s api.Step, x api.Point) {
	low, high := math.MinInt, math.MaxInt
	for _, b := range s.Low {
		w.form(b.Form)
		low = max(low, int(math.Ceil(float64(value(b.Form, x))/float64(b.Div))))
	}
	for _, b := range s.High {
		w.form(b.Form)
		high = min(high, int(math.Floor(float64(value(b.Form, x))/float64(b.Div))))
	}
	for n := low; n <= high; n++ {
		w.all++
		w.steps(s.Body, append(x[:len(x):len(x)], api.Slot{Name: s.Name, Value: n}))
	}
	at := 2*len(x) + 1
	if at >= len(w.parallel) || !w.parallel[at] {
		return
	}
	for _, y := range s.Body {
		if y.Kind != api.StepSet {
			return
		}
	}
	if len(s.Body) > 0 {
		vectors := max(high-low+1, 0) / w.wide * len(s.Body)
		w.loops++
		w.vectors += vectors
		w.single -= vectors * w.wide
	}
}

// compiled is code with vectors of so many values, which has to be all right.
func compiled(t *testing.T, p api.Program, wide int) []api.Order {
	t.Helper()
	c, e := emit.Compile(p, wide)
	if e != api.OK {
		t.Fatalf("Compile: %v", e)
	}
	same(t, "CheckCode", emit.CheckCode(c, len(p.Arrays)), api.OK)
	return c
}

// does checks that code does what a program does, with no more instructions than it may, and returns how many these are.
func does(t *testing.T, p api.Program, wide int, in []api.Grid) int {
	t.Helper()
	text, _ := nest.Text(p)
	what := fmt.Sprint(wide, " ", text)
	want, e := run.Run(p, in)
	same(t, what, e, api.OK)
	c := compiled(t, p, wide)
	got, n, e := emit.Run(p, c, in, api.MaxFuel)
	same(t, what, []any{got, e}, []any{want, api.OK})
	w := walkOf(t, p, wide)
	if most := 100 + 40*w.all; n > most {
		t.Errorf("%s: %d instructions, not %d", what, n, most)
	}
	m := naiveOf(p, in)
	done, e := m.run(c, api.MaxFuel)
	stores := []any{m.stores[1], 0}
	if wide > 1 {
		stores[1] = m.stores[wide]
	}
	same(t, what, []any{done, e, stores}, []any{n, api.OK, []any{w.single, w.vectors}})
	if wide > 1 {
		_, one, _ := emit.Run(p, compiled(t, p, 1), in, api.MaxFuel)
		if most := one + 100*w.loops; n > most {
			t.Errorf("%s: %d instructions, not %d", what, n, most)
		}
	}
	return n
}

// P7.3: code does what programs do.
func TestCodeDoesTheSame(t *testing.T) {
	vectors, fewer := 0, 0
	eachProgram(t, 5, 1500, func(g *gen, p api.Program) {
		in := g.grids(p)
		one := does(t, p, 1, in)
		wide := []int{2, 2, 3, 4, 7, api.MaxWide}[g.below(6)]
		_, e := emit.Compile(p, wide)
		if _, deep, _ := nest.Loops(p); deep > 3 && e == api.ErrLarge {
			return
		}
		same(t, "Compile", e, api.OK)
		n := does(t, p, wide, in)
		vectors += walkOf(t, p, wide).vectors
		if n < one {
			fewer++
		}
	})
	if vectors < 500 || fewer < 200 {
		t.Error("too few vectors", vectors, fewer)
	}
}

// arrays are large enough for what stands in these tests.
const arrays = "array d[2, 3, 4, 5]; array c[4, 5, 6]; array b[30, 30]; array a[200]; "

// any is values for all arrays of a program.
func (g *gen) any(p api.Program) []api.Grid {
	all, _ := run.Run(api.Program{Arrays: p.Arrays}, nil)
	for _, x := range all {
		for i := range x.Values {
			x.Values[i] = g.below(api.Prime)
		}
	}
	return all
}

// P7.3: programs of each kind; vectors is how many statements are done with vectors of 4 values.
func TestCode(t *testing.T) {
	g := dice(6)
	for _, c := range []struct {
		text    string
		vectors int
	}{
		{"", 0},
		{"s: a[0] = 1;", 0},
		{"s: a[0] = 1000002; t: a[1] = 1000001; u: a[2] = 1000000; v: a[3] = 0; w: a[4] = 2;", 0},
		{"s: a[0] = <-1>; t: a[1] = <1000000>; u: a[2] = <-1000000>; v: a[3] = <0>; w: a[4] = <1>;", 0},
		{"s: d[1, 2, 3, 4] = a[0] - b[29, 29] * c[3, 4, 5]; t: a[199] = a[0] - (a[1] - a[2]) - a[3] * (a[4] + a[5]);", 0},
		{"for i = 0 .. 9 { s: a[i] = b[0, i] + 1; }", 2},
		{"for i = 0 .. 9 { }", 0},
		{"for i = 0 .. 9 { for j = 0 .. 9 { } } s: a[0] = 1;", 0},
		// Numbers of rounds around that of the values.
		{"for i = 0 .. 0 { s: a[i] = 1; } ", 0},
		{"for i = 0 .. 2 { s: a[i] = 1; } ", 0},
		{"for i = 0 .. 3 { s: a[i] = 1; } ", 1},
		{"for i = 0 .. 6 { s: a[i] = 1; } ", 1},
		{"for i = 0 .. 7 { s: a[i] = 1; } ", 2},
		{"for i = 1 .. 0 { s: a[i] = 1; } ", 0},
		{"for i = 9 .. 0 { s: a[i] = 1; } ", 0},
		{"for i = -9 .. -1 { s: a[-i] = <i>; } ", 2},
		// Statements in a loop are done one after the other.
		{"for i = 0 .. 11 { s: a[i] = <i>; t: a[i] = a[i] * a[i] + 1; u: b[i, i] = a[i]; v: a[i + 20] = b[i, i] - a[i]; }", 12},
		{"for i = 0 .. 11 { s: a[i] = a[i] + a[i + 20]; t: a[i + 20] = a[i]; }", 6},
		// What hangs on other rounds, backwards or forwards, is done alone.
		{"for i = 1 .. 11 { s: a[i] = a[i - 1] + 1; }", 0},
		{"for i = 0 .. 11 { s: a[i] = a[i + 1] + 1; }", 0},
		{"for i = 0 .. 11 { s: a[i] = a[11 - i] + 1; }", 0},
		{"for i = 0 .. 11 { s: a[0] = a[0] + <i>; }", 0},
		{"for i = 0 .. 11 { s: a[0] = <i>; }", 0},
		{"for i = 0 .. 11 { s: a[i] = <i>; t: a[i + 1] = 7; }", 0},
		{"for i = 0 .. 11 { s: a[i] = <i>; t: b[0, i] = a[i + 1]; }", 0},
		// A loop is parallel if all those with as many around them are.
		{"for i = 0 .. 11 { s: a[i] = 1; } for i = 0 .. 11 { t: a[0] = a[0] + 1; }", 0},
		{"for i = 0 .. 11 { s: a[i] = 1; } for i = 0 .. 11 { t: a[i] = a[i] + 1; }", 6},
		{"for i = 0 .. 11 { s: a[i] = 1; } for i = 0 .. 1 { for j = 1 .. 9 { t: a[j] = a[j - 1]; } }", 0},
		{"for i = 0 .. 9 { for j = 1 .. 9 { t: b[i, j] = b[i, j - 1]; } }", 0},
		{"for i = 1 .. 9 { for j = 0 .. 9 { t: b[i, j] = b[i - 1, j]; } }", 18},
		{"for i = 1 .. 9 { for j = 0 .. 9 { t: b[j, i] = b[j, i - 1] * 2; } }", 18},
		{"for i = 0 .. 9 { for j = 0 .. 9 { t: a[i] = a[i] + b[i, j]; } }", 0},
		{"for i = 0 .. 9 { s: a[i] = 3; for j = 0 .. 9 { t: b[i, j] = a[i]; } }", 20},
		{"for i = 0 .. 2 { for j = 0 .. 2 { for k = 0 .. 4 { s: c[i, j, k] = <i - 2*j + 3*k - 4>; } } }", 9},
		// Loops with other steps in them are not done with vectors.
		{"for i = 0 .. 9 { if 5 - i >= 0 { s: a[i] = 1; } }", 0},
		{"for i = 0 .. 9 { if 5 - i >= 0 { s: a[i] = 1; } t: b[i, 0] = 1; }", 0},
		{"for i = 0 .. 9 { s: a[i] = 1; for j = 1 .. 0 { } }", 0},
		{"if 0 >= 0 { for i = 0 .. 9 { s: a[i] = 1; } } if -1 >= 0 { for i = 0 .. 9 { t: a[i] = 2; } }", 2},
		// Cells at all distances from each other.
		{"for i = 0 .. 9 { s: a[19*i + 3] = a[180 - 20*i] + b[3*i, 29 - 2*i] * b[29 - 2*i, 3*i] - c[3, 4, 5] + <1000*i - 1000000>; }", 0},
		{"for i = 0 .. 9 { s: b[i, 2*i] = a[180 - 20*i] + a[19*i + 3] - c[3, 4, 5] + <1000*i - 1000000>; }", 2},
		{"for i = 0 .. 4 { s: d[1, 2, 3, i] = d[0, 0, 0, 4 - i] * a[7]; t: c[0, i, i] = d[i - i, 1, 2, i]; }", 2},
		{"for i = 0 .. 3 { s: d[1, 2, i, i + 1] = d[0, 0, i, 3 - i] - <-7*i>; }", 1},
		// Bounds, rounded up and down, the greatest and the least of them.
		{"for i = (-7)/2 .. (7)/2 { s: a[i + 3] = <i>; }", 1},
		{"for i = (7)/2 .. (17)/3 { s: a[i] = <i>; }", 0},
		{"for i = (6)/2 .. (18)/3 { s: a[i] = <i>; }", 1},
		{"for i = (-6)/2 .. (-2)/3 { s: a[i + 9] = <i>; }", 0},
		{"for i = (1000000)/3 .. 333335 { s: a[i - 333334] = 1; }", 0},
		{"for i = (-1000000)/1000 .. (-999000)/1000 { s: a[i + 1000] = 5; }", 0},
		{"for i = max(3, 7, -1) .. min(18, 20, 19) { s: a[i] = 1; }", 3},
		{"for i = max(7, 3) .. min(20, 18) { s: a[i] = 1; }", 3},
		{"for i = max(1, (7)/2, 0, 2, (-5)/3, 3) .. min(9, (19)/2, 12, (29)/3, 10, 11) { s: a[i] = 1; }", 1},
		{"for i = 0 .. 4 { for j = max(i, 3 - i) .. min(9 - i, 2*i + 3, (7*i + 20)/3) { s: b[i, j] = 1; } }", 3},
		{"for i = 0 .. 9 { for j = -i .. i { if i - j >= 0, 2*i + j - 3 >= 0, j >= 0, -j + 7 >= 0 { s: b[i, j] = <i - j>; } } }", 0},
		// The greatest numbers.
		{"for i = 1000000 .. 1000000 { s: a[i - 1000000] = <1000*i>; }", 0},
		{"for i = -1000000 .. -999996 { s: a[i + 1000000] = <1000*i - 1000000>; t: b[0, -i - 999971] = <-1000*i + 1000000>; }", 2},
		{"for i = 999990 .. 1000000 { for j = i .. 1000000 { s: b[i - 999990, j - i] = <1000*i + 1000*j - 5>; } }", 12},
	} {
		p := program(t, arrays+c.text)
		in := g.any(p)
		does(t, p, 1, in)
		for wide := 2; wide <= api.MaxWide; wide++ {
			does(t, p, wide, in)
		}
		same(t, c.text, walkOf(t, p, 4).vectors, c.vectors)
	}
}

// P7.3: the example of the chapter.
func TestExampleOfVectors(t *testing.T) {
	p := program(t, "array a[10]; array b[10]; for i = 0 .. 9 { s: a[i] = b[i] + 1; }")
	in := grids(grid("b", 9, 8, 7, 6, 5, 4, 3, 2, 1, api.Prime-1))
	m := naiveOf(p, in)
	_, e := m.run(compiled(t, p, 4), api.MaxFuel)
	same(t, "stores", []any{m.stores, e}, []any{map[int]int{4: 2, 1: 2}, api.OK})
	if one, four := does(t, p, 1, in), does(t, p, 4, in); four >= one {
		t.Error("as many instructions", one, four)
	}
}

// A distance that no constant can be is needed by no run.
func TestCodeWithFarCells(t *testing.T) {
	p := program(t, "array a[1, 20000]; for i = 0 .. 0 { s: a[1000*i, 1000*i] = a[-1000*i, 9] + 1; }")
	does(t, p, 1, nil)
	does(t, p, 16, nil)
}

// P7.3: loops, bounds, terms and expressions as deep and as many as they can be.
func TestDeepCode(t *testing.T) {
	text, terms := "", "0"
	for i := range 11 {
		name := string(rune('i' + i))
		low, high := "max(-1, "+terms+", "+terms+" - 1, 0, -3, -2)", "min(2, "+terms+" + 1, 2, 3, 4, 5)"
		text += "for " + name + " = " + low + " .. " + high + " { "
		terms += fmt.Sprint(" + ", 2*i%3-1, "*", name)
		if i%3 == 1 {
			terms = strings.ReplaceAll(terms, " + -1*", " - ")
		}
	}
	terms = strings.ReplaceAll(terms, " + -1*", " - ")
	text = strings.ReplaceAll(text, " + -1*", " - ") + "s: a[0] = a[0] * 3 + <" + terms + ">; " + strings.Repeat("} ", 11)
	p := program(t, arrays+text)
	if n, e := run.Rounds(p); n < 100 || e != api.OK {
		t.Fatal(n, e)
	}
	does(t, p, 1, nil)
	for _, left := range []int{0, 1} {
		x := api.Expr{Op: api.OpNumber, N: 7}
		for i := range api.MaxDepth - 1 {
			args := []api.Expr{{Op: api.OpRead, Array: "a", Subs: []api.Form{form(t, fmt.Sprint("i + ", i))}}, {Op: api.OpNumber}}
			args[1] = x
			if left == 1 {
				args[0], args[1] = args[1], args[0]
			}
			x = api.Expr{Op: api.OpAdd + i%3, Args: args}
		}
		q := program(t, arrays+"for i = 0 .. 9 { s: b[0, i] = 1; }")
		q.Steps[0].Body[0].Expr = x
		in := dice(7).any(q)
		does(t, q, 1, in)
		does(t, q, 3, in)
	}
}

// reads is an expression that reads so many cells, each of which is another one.
func reads(first, many, depth int) api.Expr {
	if many == 1 {
		return api.Expr{Op: api.OpRead, Array: "z", Subs: []api.Form{{Const: first}}}
	}
	left := reads(first, many/2, depth+1)
	return api.Expr{Op: api.OpMul, Args: []api.Expr{left, reads(first+many/2, many-many/2, depth+1)}}
}

// large is a program with so many statements that read 64 cells each.
func large(many int) api.Program {
	p := api.Program{Arrays: []api.Array{{Key: "z", Sizes: []int{20_000}}}}
	for i := range many {
		s := api.Step{Kind: api.StepSet, Name: fmt.Sprint("s", i), Array: "z", Subs: []api.Form{{Const: i}}}
		s.Expr = reads(64*i, 64, 1)
		p.Steps = append(p.Steps, s)
	}
	return p
}

// P7.3: errors of Compile.
func TestErrorsOfCompile(t *testing.T) {
	check := func(what string, p api.Program, wide int, want api.Errno) {
		t.Helper()
		c, e := emit.Compile(p, wide)
		same(t, what, []any{len(c) > 0, e}, []any{want == api.OK, want})
	}
	for _, x := range wrongs() {
		for _, wide := range []int{-1, 0, 1, 4, 17} {
			check("program", x.program, wide, x.want)
		}
	}
	some := program(t, "array a[4]; for i = 0 .. 3 { s: a[i] = 1; }")
	for _, wide := range append(extremes(), 0, -1, api.MaxWide+1) {
		check(fmt.Sprint(wide), some, wide, api.ErrArg)
		check(fmt.Sprint(wide), large(300), wide, api.ErrArg)
	}
	for wide := range api.MaxWide {
		check(fmt.Sprint(wide+1), some, wide+1, api.OK)
	}
	check("large", large(300), 1, api.ErrFull)
	check("large", large(300), 2, api.ErrFull)
	check("less", large(15), 1, api.OK)
	// Just with vectors is there a run, and a schedule.
	for i, x := range failures(t) {
		check(fmt.Sprint("failure ", i), x.program, 1, api.OK)
		check(fmt.Sprint("failure ", i), x.program, 2, x.want)
		check(fmt.Sprint("failure ", i), x.program, api.MaxWide, x.want)
	}
	deep := program(t, "array a[4]; for i = 0 .. 1 { for j = 0 .. 1 { for k = 0 .. 1 { for l = 0 .. 1 { s: a[0] = a[7]; } } } }")
	check("deep", deep, 1, api.OK)
	check("deep", deep, 4, api.ErrLarge)
	long := large(300)
	long.Steps[299].Subs[0].Const = -1
	check("large, and an index outside", long, 4, api.ErrFull)
}
