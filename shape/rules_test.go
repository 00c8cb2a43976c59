package shape_test

import (
	"cmp"
	"fmt"
	"reflect"
	"slices"
	"strconv"
	"strings"
	"sync"
	"testing"

	"warpbeam/api"
	"warpbeam/shape"
)

// rich is a program with a bit of everything, all of which can be changed.
const rich = `array a[9];
array c[9, 9];
for i = 1 .. 3 {
  for j = 0 .. 2 {
    if i + j >= 0, 7 >= 0 {
      s: c[i, j] = c[i - 1, j] * 3 + <i - 2*j>;
    }
    for k = max(0, i - 1) .. (i + 5)/2 {
      t: c[i + 4, j] = c[8, k] - (c[i + 4, j] - 1);
    }
  }
}
for h = 1 .. 3 {
  if 5 >= 0 {
    u: a[h] = 1;
  }
  v: c[8, 8] = 2;
}
`

// changes are calls of all functions that return a program, each of which has no error.
func changes() map[string]do {
	return map[string]do{
		"Exchange": exchange(0), "Reverse": reverse(1), "Shift": shift(0, 2), "Skew": skew(0, 1), "Strip": strip(0, 2, "x"),
		"Tile": tile(0, 2, "x", "y"), "Fuse": fuse(0), "Split": split(1, 1), "Cut": cut(0, 2),
		"Do": func(p api.Program) (api.Program, api.Errno) {
			return shape.Do(p, api.Move{Kind: api.MoveSplit, Loop: 3, Arg: 1})
		},
		"Simple": func(p api.Program) (api.Program, api.Errno) {
			q, _, e := shape.Simple(p)
			return q, e
		},
	}
}

// summary is the results of all functions.
func summary(p api.Program) string {
	var l []string
	all := changes()
	for name := range all {
		l = append(l, name)
	}
	slices.Sort(l)
	for i, name := range l {
		l[i] += ": " + made(all[name](p))
	}
	moves, e := shape.Moves(p)
	l = append(l, fmt.Sprint("Moves: ", moves, e))
	perfect, e := shape.Perfect(p)
	l = append(l, fmt.Sprint("Perfect: ", perfect, e))
	return strings.Join(l, "\n")
}

// What the summary is made of has no errors.
func TestSummary(t *testing.T) {
	s := summary(program(t, rich))
	if strings.Contains(s, "error") || strings.Count(s, "\n") != len(changes())+1 {
		t.Error(s)
	}
	same(t, "ends", s[strings.Index(s, "Moves"):], "Moves: [{1 0 0} {3 0 0} {2 1 0} {4 1 1} {4 3 1}] 0\nPerfect: [0] 0")
}

// Z2: arguments are not changed.
func TestArgumentsStay(t *testing.T) {
	p := program(t, rich)
	want := fmt.Sprintf("%+v", p)
	summary(p)
	same(t, "program", fmt.Sprintf("%+v", p), want)
}

// lists calls visit with a function that spoils a list, for each list of a program.
func lists(p *api.Program, visit func(spoil func())) {
	for i := range p.Arrays {
		l := p.Arrays[i].Sizes
		visit(func() { spoil(l, -9) })
	}
	arrays := p.Arrays
	visit(func() { spoil(arrays, api.Array{Key: "!"}) })
	listsOfSteps(p.Steps, visit)
}

// spoil writes into all of a list, and behind it.
func spoil[T any](l []T, with T) {
	for i := range l {
		l[i] = with
	}
	_ = append(l, with)
}

func listsOfSteps(l []api.Step, visit func(func())) {
	forms := func(l []api.Form) {
		for _, f := range l {
			visit(func() { spoil(f.Terms, api.Term{Name: "!"}) })
		}
		visit(func() { spoil(l, api.Form{Const: -9}) })
	}
	bounds := func(l []api.Bound) {
		for _, b := range l {
			visit(func() { spoil(b.Form.Terms, api.Term{Name: "!"}) })
		}
		visit(func() { spoil(l, api.Bound{}) })
	}
	var expr func(x api.Expr)
	expr = func(x api.Expr) {
		forms(x.Subs)
		visit(func() { spoil(x.Form.Terms, api.Term{Name: "!"}) })
		for _, y := range x.Args {
			expr(y)
		}
		visit(func() { spoil(x.Args, api.Expr{Op: -9}) })
	}
	for _, s := range l {
		bounds(s.Low)
		bounds(s.High)
		forms(s.Conds)
		forms(s.Subs)
		expr(s.Expr)
		listsOfSteps(s.Body, visit)
	}
	visit(func() { spoil(l, api.Step{Kind: -9}) })
}

// Z2: results are new memory: to spoil them changes neither the program nor later results.
func TestResultsShareNothing(t *testing.T) {
	p := program(t, rich)
	before, want := fmt.Sprintf("%+v", p), summary(p)
	for name, do := range changes() {
		q, e := do(p)
		same(t, name, e, api.OK)
		many := 0
		lists(&q, func(spoil func()) {
			spoil()
			many++
		})
		if many < 60 {
			t.Error("too few lists", name, many)
		}
		same(t, name, fmt.Sprintf("%+v", p), before)
	}
	same(t, "all", summary(p), want)
}

// room is the memory of a list, up to its capacity.
type room struct {
	kind        string
	first, last uintptr
}

func roomOf[T any](kind string, l []T) room {
	v := reflect.ValueOf(l)
	return room{kind, v.Pointer(), v.Pointer() + uintptr(cap(l))*reflect.TypeFor[T]().Size()}
}

// rooms are those of all lists of a program.
func rooms(p api.Program) []room {
	l := []room{roomOf("arrays", p.Arrays)}
	for _, a := range p.Arrays {
		l = append(l, roomOf("sizes", a.Sizes))
	}
	return append(l, roomsOfSteps(p.Steps)...)
}

func roomsOfForms(l []api.Form) []room {
	out := []room{roomOf("forms", l)}
	for _, f := range l {
		out = append(out, roomOf("terms", f.Terms))
	}
	return out
}

func roomsOfBounds(l []api.Bound) []room {
	out := []room{roomOf("bounds", l)}
	for _, b := range l {
		out = append(out, roomOf("terms of bounds", b.Form.Terms))
	}
	return out
}

func roomsOfExpr(x api.Expr) []room {
	out := append(roomsOfForms(x.Subs), roomOf("terms of expressions", x.Form.Terms), roomOf("args", x.Args))
	for _, y := range x.Args {
		out = append(out, roomsOfExpr(y)...)
	}
	return out
}

func roomsOfSteps(l []api.Step) []room {
	out := []room{roomOf("steps", l)}
	for _, s := range l {
		out = slices.Concat(out, roomsOfBounds(s.Low), roomsOfBounds(s.High), roomsOfForms(s.Conds), roomsOfForms(s.Subs), roomsOfExpr(s.Expr), roomsOfSteps(s.Body))
	}
	return out
}

// Z2: no two lists of one result share memory.
func TestListsOfOneResultAreApart(t *testing.T) {
	for name, do := range changes() {
		q, _ := do(program(t, rich))
		l := slices.DeleteFunc(rooms(q), func(r room) bool { return r.first == r.last })
		slices.SortFunc(l, func(a, b room) int { return cmp.Compare(a.first, b.first) })
		for i := 1; i < len(l); i++ {
			if l[i].first < l[i-1].last {
				t.Errorf("%s: %s and %s share memory", name, l[i-1].kind, l[i].kind)
			}
		}
		if len(l) < 40 {
			t.Error("too few lists", name, len(l))
		}
	}
}

// Z2: what was made stays as it is when arguments are changed later.
func TestArgumentsAreNotKept(t *testing.T) {
	for name, do := range changes() {
		p := program(t, rich)
		q, _ := do(p)
		want := steps(q)
		lists(&p, func(spoil func()) { spoil() })
		same(t, name, steps(q), want)
	}
}

// behind puts something wrong behind all lists of steps.
func behind(l []api.Step) []api.Step {
	l = append(slices.Clone(l), api.Step{Kind: -9})
	l = l[:len(l)-1]
	for i, s := range l {
		bad := api.Form{Const: -9_000_000}
		l[i].Body = behind(s.Body)
		l[i].Low = append(slices.Clone(s.Low), api.Bound{Form: bad})[:len(s.Low)]
		l[i].High = append(slices.Clone(s.High), api.Bound{Form: bad})[:len(s.High)]
		l[i].Conds = append(slices.Clone(s.Conds), bad)[:len(s.Conds)]
		l[i].Subs = append(slices.Clone(s.Subs), bad)[:len(s.Subs)]
		l[i].Expr.Args = append(slices.Clone(s.Expr.Args), api.Expr{Op: -9})[:len(s.Expr.Args)]
	}
	return l
}

// wholeMemory writes steps with what is behind their lists.
func wholeMemory(l []api.Step) string {
	text := ""
	for _, s := range l[:cap(l)] {
		text += fmt.Sprintf("%d %s %v %v %v %v %v; ", s.Kind, s.Name, s.Low[:cap(s.Low)], s.High[:cap(s.High)], s.Conds[:cap(s.Conds)], s.Subs[:cap(s.Subs)], s.Expr.Args[:cap(s.Expr.Args)])
		text += wholeMemory(s.Body)
	}
	return text
}

// Z2: what is in the memory of a list after its length is not looked at, and stays.
func TestMemoryBehindLists(t *testing.T) {
	p := program(t, rich)
	want := summary(p)
	p.Steps = behind(p.Steps)
	n := len(p.Arrays)
	p.Arrays = append(p.Arrays, api.Array{Key: "!"})[:n]
	memory := wholeMemory(p.Steps)
	same(t, "all", summary(p), want)
	same(t, "behind", []any{p.Arrays[:n+1][n].Key, wholeMemory(p.Steps)}, []any{"!", memory})
}

// Z1: programs that hold themselves have no end, but calls do.
func TestEndlessValues(t *testing.T) {
	body := []api.Step{{Kind: api.StepIf, Conds: []api.Form{{}}}, {Kind: api.StepIf, Conds: []api.Form{{}}}}
	body[0].Body, body[1].Body = body, body
	p := api.Program{Steps: body}
	same(t, "results", results(p, numbers{}), allFail(api.ErrLarge))
	_, _, e := shape.Simple(p)
	same(t, "Simple", e, api.ErrLarge)
	_, e = shape.Perfect(p)
	same(t, "Perfect", e, api.ErrLarge)
}

// Z1: names as long as they can be.
func TestLargeValues(t *testing.T) {
	long := strings.Repeat("k", 200_000)
	p := program(t, rich)
	same(t, "Strip", made(shape.Strip(p, 0, 2, long)), errors(api.ErrName))
	same(t, "Tile", made(shape.Tile(p, 0, 2, long, "y")), errors(api.ErrName))
	same(t, "Tile", made(shape.Tile(p, 0, 2, "x", long)), errors(api.ErrName))
}

// Z1: programs with many steps, and almost as many instances as there can be, have their moves soon.
func TestManyMoves(t *testing.T) {
	var loops, statements strings.Builder
	for k := range 75 {
		n := strconv.Itoa(k)
		loops.WriteString("for i = 0 .. 600 { s" + n + ": a[i + " + n + "] = a[i + " + n + "] + 1; } ")
	}
	statements.WriteString("for i = 0 .. 332 { ")
	for k := range 150 {
		n := strconv.Itoa(k)
		statements.WriteString("s" + n + ": a[" + n + "] = a[" + n + "]; ")
	}
	for _, c := range []struct {
		text string
		want int
	}{
		// All can be reversed; fused, they would use cells too early.
		{loops.String(), 75},
		{statements.String() + "}", 149},
	} {
		p := program(t, "array a[700]; "+c.text)
		l, e := shape.Moves(p)
		same(t, "moves", []any{len(l), e}, []any{c.want, api.OK})
	}
}

// readsOf is a sum that reads the same as often as it can.
func readsOf(x api.Expr, depth int) api.Expr {
	if depth == api.MaxDepth {
		return x
	}
	y := readsOf(x, depth+1)
	return api.Expr{Op: api.OpAdd, Args: []api.Expr{y, y}}
}

// Z1: expressions as large as they can be.
func TestLargeExpressions(t *testing.T) {
	p := program(t, "array a[9]; for i = 1 .. 3 { s: a[i] = a[2*i]; r: a[i] = 1; }")
	body := p.Steps[0].Body
	body[0].Expr = readsOf(body[0].Expr, 1)
	q, e := shape.Shift(p, 0, 1)
	same(t, "Shift", e, api.OK)
	x := q.Steps[0].Body[0].Expr
	for len(x.Args) > 0 {
		x = x.Args[1]
	}
	same(t, "Subs", x.Subs, []api.Form{{Const: -2, Terms: []api.Term{{Name: "i", Coef: 2}}}})
	l, e := shape.Moves(p)
	same(t, "Moves", []any{l, e}, []any{[]api.Move{{Kind: api.MoveSplit, Arg: 1}}, api.OK})
}

// Z1 and Z7: calls of several goroutines do not disturb each other, and always have the same results.
func TestCallsAtOnce(t *testing.T) {
	p := program(t, rich)
	want := summary(p)
	var group sync.WaitGroup
	for range 8 {
		group.Go(func() {
			for range 10 {
				if got := summary(p); got != want {
					t.Errorf("got %s, want %s", short(got), short(want))
				}
			}
		})
	}
	group.Wait()
}
