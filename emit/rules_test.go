package emit_test

import (
	"cmp"
	"fmt"
	"reflect"
	"slices"
	"strings"
	"sync"
	"testing"

	"warpbeam/api"
	"warpbeam/emit"
	"warpbeam/nest"
)

// rich is a program with a bit of everything.
const rich = `array c[9, 9];
array a[9];
for i = 1 .. 3 {
  for j = max(0, i - 2) .. 4 {
    if i + j >= 0, 7 >= 0 {
      s: c[i, j] = c[i - 1, j] * 3 + <i - 2*j>;
    }
  }
}
for h = 0 .. 8 {
  t: a[h] = c[1, h] - (a[h] - 1);
}
`

// richTimes are legal.
func richTimes(t *testing.T) []api.Plan { return plans(t, "s: 0, i + j, i, 2*j", "t: 1, h, 0, h") }

// summary is the results of all functions.
func summary(t *testing.T, p api.Program, l []api.Plan, c []api.Order, g []api.Grid) string {
	var b strings.Builder
	add := func(x ...any) { fmt.Fprintf(&b, "%+v\n", x) }
	q, e := emit.Scan(p, l)
	add(q, e)
	add(emit.CheckCode(c, 2))
	for _, wide := range []int{1, 3} {
		d, e := emit.Compile(p, wide)
		add(d, e)
	}
	out, n, e := emit.Run(p, c, g, 100)
	add(out, n, e)
	d, e := emit.Trim(c)
	add(d, e)
	first, ways, e := emit.Blocks(c)
	add(first, ways, e)
	text, e := emit.Text(c)
	add(text, e)
	d, line, e := emit.Read(text)
	add(d, line, e)
	return b.String()
}

// richCode has a bit of everything, too.
const richCode = "set 1 3; less 2 1 4; jump 9; halt; wide 2; load 0 2 2 1; store 0 2 1 0; add 2 2 1; jump 1; jump 3; halt"

// richGrids are grids for the rich program.
func richGrids() []api.Grid { return grids(grid("a", 1, 2, 3, 4, 5, 6, 7, 8, 9)) }

func richSummary(t *testing.T) string {
	return summary(t, program(t, rich), richTimes(t), code(t, richCode), richGrids())
}

// What the summary is made of has no errors.
func TestSummary(t *testing.T) {
	p, c := program(t, rich), code(t, richCode)
	_, e := emit.Scan(p, richTimes(t))
	same(t, "Scan", e, api.OK)
	_, e = emit.Compile(p, 3)
	same(t, "Compile", e, api.OK)
	same(t, "Run", ran(p, c, richGrids(), 100)[:30], "a [1 2 3 4 5 6 7 8 9] c [1 0 0")
}

// Z2: arguments are not changed.
func TestArgumentsStay(t *testing.T) {
	p, l, c, g := program(t, rich), richTimes(t), code(t, richCode), richGrids()
	want := fmt.Sprintf("%+v %+v %+v %+v", p, l, c, g)
	summary(t, p, l, c, g)
	same(t, "arguments", fmt.Sprintf("%+v %+v %+v %+v", p, l, c, g), want)
}

// spoil writes into all of a list, and behind it.
func spoil[T any](l []T, with T) {
	for i := range l {
		l[i] = with
	}
	_ = append(l, with)
}

// lists calls visit with a function that spoils a list, for each list of a program.
func lists(p *api.Program, visit func(spoil func())) {
	for i := range p.Arrays {
		l := p.Arrays[i].Sizes
		visit(func() { spoil(l, -9) })
	}
	arrays := p.Arrays
	visit(func() { spoil(arrays, api.Array{Key: "!"}) })
	listsOfSteps(p.Steps, visit)
}

func listsOfSteps(l []api.Step, visit func(func())) {
	forms := func(l []api.Form) {
		for _, f := range l {
			visit(func() { spoil(f.Terms, api.Term{Name: "!"}) })
		}
		visit(func() { spoil(l, api.Form{Const: -9}) })
	}
	var expr func(x api.Expr)
	expr = func(x api.Expr) {
		forms(x.Subs)
		visit(func() { spoil(x.Form.Terms, api.Term{Name: "!"}) })
		for _, y := range x.Args {
			expr(y)
		}
		visit(func() { spoil(x.Args, api.Expr{Op: -9}) })
	}
	for _, s := range l {
		for _, b := range slices.Concat(s.Low, s.High) {
			visit(func() { spoil(b.Form.Terms, api.Term{Name: "!"}) })
		}
		visit(func() { spoil(s.Low, api.Bound{}) })
		visit(func() { spoil(s.High, api.Bound{}) })
		forms(s.Conds)
		forms(s.Subs)
		expr(s.Expr)
		listsOfSteps(s.Body, visit)
	}
	visit(func() { spoil(l, api.Step{Kind: -9}) })
}

// Z2: results are new memory: to spoil them changes neither arguments nor later results.
func TestResultsShareNothing(t *testing.T) {
	p, l, c, g := program(t, rich), richTimes(t), code(t, richCode), richGrids()
	before, want := fmt.Sprintf("%+v %+v %+v %+v", p, l, c, g), summary(t, p, l, c, g)
	q, _ := emit.Scan(p, l)
	many := 0
	lists(&q, func(spoil func()) {
		spoil()
		many++
	})
	if many < 40 {
		t.Error("too few lists", many)
	}
	for _, wide := range []int{1, 3} {
		d, _ := emit.Compile(p, wide)
		spoil(d, api.Order{Do: -9})
	}
	out, _, _ := emit.Run(p, c, g, 100)
	for _, x := range out {
		spoil(x.Values, -9)
	}
	spoil(out, api.Grid{Key: "!"})
	d, _ := emit.Trim(c)
	spoil(d, api.Order{Do: -9})
	// Nothing is left out here.
	d, _ = emit.Trim(c[:1])
	spoil(d, api.Order{Do: -9})
	first, ways, _ := emit.Blocks(c)
	spoil(first, -9)
	for _, x := range ways {
		spoil(x, -9)
	}
	spoil(ways, []int{-9})
	same(t, "arguments", fmt.Sprintf("%+v %+v %+v %+v", p, l, c, g), before)
	same(t, "all", summary(t, p, l, c, g), want)
}

// room is the memory of a list, up to its capacity.
type room struct {
	kind        string
	first, last uintptr
}

func roomOf[T any](kind string, l []T) room {
	v := reflect.ValueOf(l)
	return room{kind, v.Pointer(), v.Pointer() + uintptr(cap(l))*reflect.TypeFor[T]().Size()}
}

// rooms are those of all lists of a program.
func rooms(p api.Program) []room {
	l := []room{roomOf("arrays", p.Arrays)}
	for _, a := range p.Arrays {
		l = append(l, roomOf("sizes", a.Sizes))
	}
	return append(l, roomsOfSteps(p.Steps)...)
}

func roomsOfForms(l []api.Form) []room {
	out := []room{roomOf("forms", l)}
	for _, f := range l {
		out = append(out, roomOf("terms", f.Terms))
	}
	return out
}

func roomsOfExpr(x api.Expr) []room {
	out := append(roomsOfForms(x.Subs), roomOf("terms of expressions", x.Form.Terms), roomOf("args", x.Args))
	for _, y := range x.Args {
		out = append(out, roomsOfExpr(y)...)
	}
	return out
}

func roomsOfSteps(l []api.Step) []room {
	out := []room{roomOf("steps", l)}
	for _, s := range l {
		out = append(out, roomOf("low", s.Low), roomOf("high", s.High))
		out = slices.Concat(out, roomsOfForms(s.Conds), roomsOfForms(s.Subs), roomsOfExpr(s.Expr), roomsOfSteps(s.Body))
	}
	return out
}

func areApart(t *testing.T, what string, l []room, many int) {
	t.Helper()
	l = slices.DeleteFunc(l, func(r room) bool { return r.first == r.last })
	slices.SortFunc(l, func(a, b room) int { return cmp.Compare(a.first, b.first) })
	for i := 1; i < len(l); i++ {
		if l[i].first < l[i-1].last {
			t.Errorf("%s: %s and %s share memory", what, l[i-1].kind, l[i].kind)
		}
	}
	if len(l) < many {
		t.Error("too few lists", what, len(l))
	}
}

// Z2: no two lists of one result share memory.
func TestListsOfOneResultAreApart(t *testing.T) {
	p, c := program(t, rich), code(t, richCode)
	q, _ := emit.Scan(p, richTimes(t))
	areApart(t, "Scan", rooms(q), 40)
	out, _, _ := emit.Run(p, c, nil, 100)
	l := []room{roomOf("grids", out)}
	for _, x := range out {
		l = append(l, roomOf("values", x.Values))
	}
	areApart(t, "Run", l, 3)
	first, ways, _ := emit.Blocks(c)
	l = []room{roomOf("first", first), roomOf("ways", ways)}
	for _, x := range ways {
		l = append(l, roomOf("way", x))
	}
	areApart(t, "Blocks", l, 6)
}

// Z2: what was made stays as it is when arguments are changed later.
func TestArgumentsAreNotKept(t *testing.T) {
	p, l, c, g := program(t, rich), richTimes(t), code(t, richCode), richGrids()
	q, _ := emit.Scan(p, l)
	d, _ := emit.Trim(c[:1])
	out, _, _ := emit.Run(p, c, g, 100)
	want := fmt.Sprint(q, d, out)
	lists(&p, func(spoil func()) { spoil() })
	for _, x := range l {
		for _, f := range x.Times {
			spoil(f.Terms, api.Term{Name: "!"})
		}
		spoil(x.Times, api.Form{Const: -9})
	}
	spoil(c, api.Order{})
	spoil(g[0].Values, -9)
	same(t, "all", fmt.Sprint(q, d, out), want)
}

// longer is a list with something behind it.
func longer[T any](l []T, with T) []T { return append(slices.Clone(l), with)[:len(l)] }

// behind puts something wrong behind all lists of steps.
func behind(l []api.Step) []api.Step {
	l = longer(l, api.Step{Kind: -9})
	for i, s := range l {
		bad := api.Form{Const: -9_000_000}
		l[i].Body = behind(s.Body)
		l[i].Low, l[i].High = longer(s.Low, api.Bound{Form: bad}), longer(s.High, api.Bound{Form: bad})
		l[i].Conds, l[i].Subs = longer(s.Conds, bad), longer(s.Subs, bad)
		l[i].Expr.Args = longer(s.Expr.Args, api.Expr{Op: -9})
	}
	return l
}

// wholeMemory writes steps with what is behind their lists.
func wholeMemory(l []api.Step) string {
	text := ""
	for _, s := range l[:cap(l)] {
		text += fmt.Sprintf("%d %s %v %v %v %v %v; ", s.Kind, s.Name, s.Low[:cap(s.Low)], s.High[:cap(s.High)], s.Conds[:cap(s.Conds)], s.Subs[:cap(s.Subs)], s.Expr.Args[:cap(s.Expr.Args)])
		text += wholeMemory(s.Body)
	}
	return text
}

// Z2: what is in the memory of a list after its length is not looked at, and stays.
func TestMemoryBehindLists(t *testing.T) {
	want := richSummary(t)
	p, l, c, g := program(t, rich), richTimes(t), code(t, richCode), richGrids()
	p.Steps, p.Arrays = behind(p.Steps), longer(p.Arrays, api.Array{Key: "!"})
	for i, x := range l {
		l[i].Times = longer(x.Times, api.Form{Const: -9_000_000})
		for k, f := range x.Times {
			l[i].Times[k].Terms = longer(f.Terms, api.Term{Name: "!"})
		}
	}
	l, c, g = longer(l, api.Plan{Key: "!"}), longer(c, api.Order{Do: -9}), longer(g, api.Grid{Key: "!"})
	g[0].Values = longer(g[0].Values, -9)
	rest := func() string {
		n, m := len(p.Arrays), len(g)
		return fmt.Sprint(p.Arrays[:n+1], l[:len(l)+1], l[0].Times[:len(l[0].Times)+1], c[:len(c)+1], g[:m+1], g[0].Values[:len(g[0].Values)+1]) + wholeMemory(p.Steps)
	}
	before := rest()
	same(t, "all", summary(t, p, l, c, g), want)
	same(t, "behind", rest(), before)
}

// Z1: programs that hold themselves have no end, but calls do.
func TestEndlessValues(t *testing.T) {
	body := []api.Step{{Kind: api.StepIf, Conds: []api.Form{{}}}, {Kind: api.StepIf, Conds: []api.Form{{}}}}
	body[0].Body, body[1].Body = body, body
	p := api.Program{Steps: body}
	same(t, "Scan", made(emit.Scan(p, nil)), "error 2")
	_, e := emit.Compile(p, 1)
	same(t, "Compile", e, api.ErrLarge)
	same(t, "Run", ran(p, nil, nil, 1), "error 2")
}

// Z1: arguments as large as they can be.
func TestLargeValues(t *testing.T) {
	const many = 200_000
	p := program(t, rich)
	same(t, "Scan", made(emit.Scan(p, make([]api.Plan, many))), "error 3")
	same(t, "Scan", made(emit.Scan(p, []api.Plan{{Key: strings.Repeat("k", many)}, {}})), "error 5")
	same(t, "Scan", made(emit.Scan(p, []api.Plan{{Key: "s", Times: make([]api.Form, many)}, {}})), "error 2")
	same(t, "Run", ran(p, make([]api.Order, many), nil, 1), "error 2")
	same(t, "Run", ran(p, code(t, "halt"), make([]api.Grid, many), 1), "error 5")
	same(t, "Run", ran(p, code(t, "halt"), grids(grid("a", make([]int, many)...)), 1), "error 3")
	refused(t, make([]api.Order, many), api.ErrLarge)
	readError(t, strings.Repeat("\n", many), 0, api.ErrLarge)
}

// shared is an expression in which all Args of each operator are the same.
func shared(x api.Expr) api.Expr {
	for range api.MaxDepth - 1 {
		x = api.Expr{Op: api.OpAdd, Args: []api.Expr{x, x}}
	}
	return x
}

// Z1: expressions as large as they can be, in as many statements.
func TestLargeExpressions(t *testing.T) {
	p := program(t, "array a[9]; for i = 0 .. 3 { s: a[i] = a[i + 4]; }")
	body := p.Steps[0].Body
	body[0].Expr = shared(body[0].Expr)
	q, e := emit.Scan(p, plans(t, "s: i + 1"))
	same(t, "Scan", e, api.OK)
	x := q.Steps[0].Body[0].Body[0].Expr
	for len(x.Args) > 0 {
		x = x.Args[1]
	}
	same(t, "Subs", x.Subs, []api.Form{form(t, "t0 + 3")})
	for i := range 40 {
		s := body[0]
		s.Name = fmt.Sprint("s", i)
		p.Steps[0].Body = append(p.Steps[0].Body, s)
	}
	same(t, "Check", nest.Check(p), api.OK)
	c, e := emit.Compile(p, 1)
	same(t, "Compile", []any{len(c), e}, []any{0, api.ErrFull})
}

// Z1: a schedule whose domains have far more points than there are instances.
func TestManyStatements(t *testing.T) {
	var b strings.Builder
	var l []api.Plan
	b.WriteString("array a[200]; for i = 0 .. 99999 { if 3 - i >= 0 { ")
	for k := range 140 {
		fmt.Fprint(&b, "s", k, ": a[", k, "] = <i>; ")
		l = append(l, plans(t, fmt.Sprint("s", k, ": i, ", k, ", 0, 0, 0, 0, 0, i"))...)
	}
	b.WriteString("} }")
	p := program(t, b.String())
	_, e := emit.Scan(p, l)
	// There are two StepIfs for each statement.
	same(t, "Scan", e, api.ErrLarge)
}

// Z1 and Z7: calls of several goroutines do not disturb each other, and always have the same results.
func TestCallsAtOnce(t *testing.T) {
	want := richSummary(t)
	p, l, c, g := program(t, rich), richTimes(t), code(t, richCode), richGrids()
	var group sync.WaitGroup
	for range 8 {
		group.Go(func() {
			for range 20 {
				if got := summary(t, p, l, c, g); got != want {
					t.Errorf("got %s, want %s", short(got), short(want))
				}
			}
		})
	}
	group.Wait()
}
