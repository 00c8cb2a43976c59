package diff_test

import (
	"cmp"
	"fmt"
	"reflect"
	"slices"
	"strings"
	"sync"
	"testing"

	"warpbeam/api"
	"warpbeam/diff"
	"warpbeam/nest"
)

// rich is a linear program with a bit of everything.
const rich = `array b[6, 5];
array c[40];
array a[9];
for i = 0 .. 3 {
  for j = max(0, i - 2) .. (i + 5)/2 {
    if i + j >= 0, 7 >= 0 {
      s: b[j, i] = b[j, i + 1] * 3 - <i - 2*j> * (c[i] + 0) + 0;
    }
  }
}
for h = 0 .. 3 {
  t: c[6*h] = b[h, 4] - (a[h] * <h> - c[h]) * (2 - <3*h>);
}
`

// richInput is an input without errors for it.
func richInput() input {
	values := func(many int) []int {
		var l []int
		for i := range many {
			l = append(l, 7*i+1)
		}
		return l
	}
	return input{
		g:    grids(grid("b", values(30)...), grid("c", values(40)...)),
		more: grids(grid("a", values(9)...), grid("c", values(40)...)),
		from: "b", to: "c", key: "t",
	}
}

// richExpr is an expression in which there is not much to make simple.
func richExpr(t *testing.T) api.Expr {
	return expr(t, "b[i, j + 1] * 3 - <i - 2*j> * (a[i] + 0) + <5>")
}

// summary is the results of all functions.
func summary(p api.Program, x input, y api.Expr) string {
	all := results(p, x)
	z, e := diff.Simple(y)
	all["Simple"] = fmt.Sprintf("%+v", []any{z, int(e)})
	var l []string
	for name := range all {
		l = append(l, name+": "+all[name])
	}
	slices.Sort(l)
	return strings.Join(l, "\n")
}

// What the summary is made of has no errors.
func TestSummary(t *testing.T) {
	for _, line := range strings.Split(summary(program(t, rich), richInput(), richExpr(t)), "\n") {
		if !strings.HasSuffix(line, " 0]") {
			t.Error(line)
		}
	}
}

// lists calls visit for each list in a value.
func lists(v reflect.Value, visit func(l reflect.Value)) {
	switch v.Kind() {
	case reflect.Struct:
		for i := range v.NumField() {
			lists(v.Field(i), visit)
		}
	case reflect.Slice:
		visit(v)
		for i := range v.Len() {
			lists(v.Index(i), visit)
		}
	}
}

// room is the memory of a list, up to its capacity.
type room struct {
	kind        string
	first, last uintptr
}

// rooms are those of all lists in some values.
func rooms(values ...any) []room {
	var l []room
	for _, x := range values {
		lists(reflect.ValueOf(x), func(v reflect.Value) {
			if v.Cap() > 0 {
				l = append(l, room{v.Type().String(), v.Pointer(), v.Pointer() + uintptr(v.Cap())*v.Type().Elem().Size()})
			}
		})
	}
	return l
}

// Z2: results are new memory: their lists share none with each other, nor with arguments.
func TestResultsShareNothing(t *testing.T) {
	p, x, y := program(t, rich), richInput(), richExpr(t)
	given := rooms(p, x.g, x.more, y)
	forward, _ := diff.Forward(p)
	back, _ := diff.Transposed(p)
	v, d, _ := diff.Dual(p, x.g, x.more)
	first, _ := diff.Gradient(p, x.g, x.more)
	wide, _ := diff.Jacobian(p, x.g, "a", "c")
	high, _ := diff.Jacobian(p, x.g, "c", "a")
	z, _ := diff.Simple(y)
	leaf, _ := diff.Simple(y.Args[0].Args[0].Args[0])
	for _, c := range []struct {
		what string
		many int
		made []room
	}{
		{"Forward", 75, rooms(forward)},
		{"Transposed", 75, rooms(back)},
		{"Dual", 8, rooms(v, d)},
		{"Gradient", 4, rooms(first)},
		{"Jacobian", 41, rooms(wide)},
		{"Jacobian", 10, rooms(high)},
		{"Simple", 9, rooms(z)},
		{"Simple", 3, rooms(leaf)},
	} {
		if len(c.made) < c.many {
			t.Error("too few lists", c.what, len(c.made))
		}
		l := append(c.made, given...)
		slices.SortFunc(l, func(a, b room) int { return cmp.Compare(a.first, b.first) })
		for i := 1; i < len(l); i++ {
			if l[i].first < l[i-1].last {
				t.Errorf("%s: %s and %s share memory", c.what, l[i-1].kind, l[i].kind)
			}
		}
	}
}

// Z2: arguments are not changed, and what is in the memory of a list after its length is not looked at, and stays.
func TestArgumentsStay(t *testing.T) {
	p, x, y := program(t, rich), richInput(), richExpr(t)
	want, before := summary(p, x, y), fmt.Sprintf("%+v %+v %+v", p, x, y)
	same(t, "arguments", fmt.Sprintf("%+v %+v %+v", p, x, y), before)
	// All lists get something wrong behind them.
	spare := func(v reflect.Value) {
		l := reflect.MakeSlice(v.Type(), v.Len()+2, v.Len()+2)
		reflect.Copy(l, v)
		wrong := reflect.New(v.Type().Elem()).Elem()
		switch wrong.Kind() {
		case reflect.Int:
			wrong.SetInt(-9)
		case reflect.Struct:
			for i := range wrong.NumField() {
				if f := wrong.Field(i); f.Kind() == reflect.Int {
					f.SetInt(-9_000_000)
				}
			}
		}
		l.Index(v.Len()).Set(wrong)
		l.Index(v.Len() + 1).Set(wrong)
		v.Set(l.Slice(0, v.Len()))
	}
	for _, v := range []any{&p, &x.g, &x.more, &y} {
		lists(reflect.ValueOf(v).Elem(), spare)
	}
	behind := func() string {
		text := ""
		for _, v := range []any{p, x.g, x.more, y} {
			lists(reflect.ValueOf(v), func(l reflect.Value) { text += fmt.Sprintf("%+v", l.Slice(0, l.Cap()).Interface()) })
		}
		return text
	}
	spares := behind()
	same(t, "all", summary(p, x, y), want)
	same(t, "arguments", fmt.Sprintf("%+v %+v %+v", p, x, y), before)
	same(t, "behind", behind(), spares)
}

// Z2: what was made stays as it is when arguments are changed later.
func TestArgumentsAreNotKept(t *testing.T) {
	p, x, y := program(t, rich), richInput(), richExpr(t)
	forward, _ := diff.Forward(p)
	back, _ := diff.Transposed(p)
	v, d, _ := diff.Dual(p, x.g, x.more)
	z, _ := diff.Simple(y)
	want := fmt.Sprint(forward, back, v, d, z)
	for _, v := range []any{&p, &x.g, &x.more, &y} {
		lists(reflect.ValueOf(v).Elem(), func(l reflect.Value) {
			for i := range l.Len() {
				// The lists within are visited behind this, so they have to stay.
				if f := l.Index(i); f.Kind() == reflect.Int {
					f.SetInt(-9)
				} else if f.Kind() == reflect.Struct {
					for k := range f.NumField() {
						if f.Field(k).Kind() == reflect.Int {
							f.Field(k).SetInt(-9)
						}
					}
				}
			}
		})
	}
	same(t, "all", fmt.Sprint(forward, back, v, d, z), want)
}

// Z5: an empty list is as good as none.
func TestEmptyLists(t *testing.T) {
	x := input{from: "a", to: "a", key: "s"}
	p, y := program(t, "array a[2]; s: a[0] = a[1];"), expr(t, "a[0] + 1")
	want := summary(p, x, y)
	x.g, x.more = []api.Grid{}, []api.Grid{}
	hollow := func(v reflect.Value) { v.Set(reflect.MakeSlice(v.Type(), 0, 0)) }
	var fill func(v reflect.Value)
	fill = func(v reflect.Value) {
		switch {
		case v.Kind() == reflect.Struct:
			for i := range v.NumField() {
				fill(v.Field(i))
			}
		case v.Kind() == reflect.Slice && v.Len() == 0:
			hollow(v)
		case v.Kind() == reflect.Slice:
			for i := range v.Len() {
				fill(v.Index(i))
			}
		}
	}
	fill(reflect.ValueOf(&p).Elem())
	fill(reflect.ValueOf(&y).Elem())
	same(t, "all", summary(p, x, y), want)
	none, empty := api.Program{}, api.Program{Arrays: []api.Array{}, Steps: []api.Step{}}
	same(t, "program", summary(empty, x, y), summary(none, input{from: "a", to: "a", key: "s"}, y))
}

// Z1: programs and expressions that hold themselves have no end, but calls do.
func TestEndlessValues(t *testing.T) {
	body := []api.Step{{Kind: api.StepIf, Conds: []api.Form{{}}}, {Kind: api.StepIf, Conds: []api.Form{{}}}}
	body[0].Body, body[1].Body = body, body
	for name, got := range results(api.Program{Steps: body}, richInput()) {
		same(t, name, got, failed(name, api.ErrLarge))
	}
	args := []api.Expr{{Op: api.OpMul}, {Op: api.OpAdd}}
	args[0].Args, args[1].Args = args, args
	x, e := diff.Simple(args[0])
	same(t, "Simple", []any{x, e}, []any{api.Expr{}, api.ErrLarge})
	p := program(t, "array a[1]; s: a[0] = 0;")
	p.Steps[0].Expr = args[0]
	for name, got := range results(p, richInput()) {
		same(t, name, got, failed(name, api.ErrLarge))
	}
}

// full is an expression in which all Args of each operator are the same, as deep as can be.
func full(op int, x api.Expr) api.Expr {
	for range api.MaxDepth - 1 {
		x = of(op, x, x)
	}
	return x
}

// Z1: lists, names and expressions as large as they can be.
func TestLargeValues(t *testing.T) {
	const many = 200_000
	p, x := program(t, "array a[3]; array b[1]; s: a[0] = b[0];"), input{from: "a", to: "b", key: "s"}
	long := strings.Repeat("k", many)
	x.g = make([]api.Grid, many)
	fails(t, "grids", p, x, withRun, api.ErrName)
	x.g, x.more = nil, grids(grid("a", make([]int, many)...))
	fails(t, "values", p, x, "Dual Gradient", api.ErrForm)
	x.more, x.key = nil, long
	fails(t, "key", p, x, "Degree", api.ErrName)
	x.key, x.from = "s", long
	fails(t, "from", p, x, "Jacobian", api.ErrName)
	simpleError(t, "name", readOf(long, api.Form{}), api.ErrName)
	simpleError(t, "Subs", readOf("a", make([]api.Form, many)...), api.ErrForm)
	simpleError(t, "Args", of(api.OpAdd, make([]api.Expr, many)...), api.ErrForm)
	simpleError(t, "Terms", formOf(api.Form{Terms: make([]api.Term, many)}), api.ErrLarge)
	simpleError(t, "expression", full(api.OpMul, readOf("a", api.Form{})), api.OK)
}

// Z1: expressions as large as they can be, in many statements and in many instances.
func TestLargeExpressions(t *testing.T) {
	p := program(t, "array a[2]; for i = 0 .. 40 { s: a[0] = a[1]; }")
	s := &p.Steps[0].Body[0]
	s.Expr = full(api.OpAdd, s.Expr)
	x := input{g: grids(grid("a", 0, 5)), more: grids(grid("a", 3, 7)), from: "a", to: "a", key: "s"}
	all := results(p, x)
	same(t, "Dual", all["Dual"], []any{grids(grid("a", 5*2_048, 5)), grids(grid("a", 7*2_048, 7)), 0})
	same(t, "Gradient", all["Gradient"], []any{grids(grid("a", 0, 7+3*2_048)), 0})
	same(t, "Jacobian", all["Jacobian"], "[[[0 2048] [0 1]] 0]")
	same(t, "Linear", all["Linear"], "[true 0]")
	same(t, "Transposed", all["Transposed"], failed("Transposed", api.ErrLarge))
	same(t, "Degree", all["Degree"], "[1 0]")
	q, e := diff.Forward(p)
	same(t, "Forward", []any{len(q.Steps[0].Body), e}, []any{2, api.OK})
	s.Expr = full(api.OpMul, readOf("a", api.Form{Const: 1}))
	all = results(p, x)
	same(t, "Forward", all["Forward"], failed("Forward", api.ErrLarge))
	same(t, "Degree", all["Degree"], "[2048 0]")
	same(t, "Jacobian", all["Jacobian"], fmt.Sprintf("[[[0 %d] [0 1]] 0]", modulo(2_048*power(5, 2_047))))
	// In as many statements as there can be.
	for i := range api.MaxSteps - 2 {
		next := *s
		next.Name = fmt.Sprint("s", i)
		p.Steps[0].Body = append(p.Steps[0].Body, next)
	}
	same(t, "Check", nest.Check(p), api.OK)
	_, e = diff.Forward(p)
	same(t, "Forward", e, api.ErrLarge)
	is, e := diff.Linear(p)
	same(t, "Linear", []any{is, e}, []any{false, api.OK})
}

// Z1: a run with as many accesses as there can be, and as many columns or rows.
func TestManyAccesses(t *testing.T) {
	p := program(t, "array a[100]; array b[100]; for h = 0 .. 499 { for i = 0 .. 99 { s: a[i] = b[99 - i] + a[i] + 3 * b[i]; } }")
	for _, c := range []struct{ from, to string }{{"a", "a"}, {"b", "a"}, {"a", "b"}, {"b", "b"}} {
		m, e := diff.Jacobian(p, nil, c.from, c.to)
		same(t, "error", e, api.OK)
		for i, row := range m {
			for k, n := range row {
				want := 0
				switch {
				case c.from == c.to && i == k:
					want = 1
				case c.from == "b" && c.to == "a" && i == k:
					want = 1_500
				case c.from == "b" && c.to == "a" && i == 99-k:
					want = 500
				}
				if n != want {
					t.Fatal(c, i, k, n, want)
				}
			}
		}
	}
}

// Z1: whichever array is the larger one, a Jacobian is found soon.
func TestLongJacobians(t *testing.T) {
	p := program(t, "array a[1]; array b[10000]; for h = 0 .. 3 { for i = 0 .. 9999 { s: b[i] = b[i] + <i> * a[0]; } } for i = 0 .. 2 { t: a[0] = a[0] + b[i]; }")
	m, e := diff.Jacobian(p, nil, "a", "b")
	same(t, "rows", []any{len(m), e}, []any{10_000, api.OK})
	for i, row := range m {
		same(t, "row", row, []int{4 * i})
	}
	m, e = diff.Jacobian(p, nil, "b", "a")
	same(t, "columns", []any{len(m), len(m[0]), m[0][:5], m[0][9_999], e}, []any{1, 10_000, []int{1, 1, 1, 0, 0}, 0, api.OK})
	m, e = diff.Jacobian(p, nil, "a", "a")
	same(t, "both", []any{m, e}, []any{[][]int{{1 + 4*(1+2)}}, api.OK})
}

// Z1 and Z7: calls of several goroutines do not disturb each other, and always have the same results.
func TestCallsAtOnce(t *testing.T) {
	p, x, y := program(t, rich), richInput(), richExpr(t)
	want := summary(p, x, y)
	var group sync.WaitGroup
	for range 8 {
		group.Go(func() {
			for range 10 {
				if got := summary(p, x, y); got != want {
					t.Errorf("got %s, want %s", short(got), short(want))
				}
			}
		})
	}
	group.Wait()
}
