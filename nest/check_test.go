package nest_test

import (
	"fmt"
	"strconv"
	"testing"

	"warpbeam/api"
	"warpbeam/nest"
)

type checkCase struct {
	what string
	p    api.Program
	want api.Errno
}

func runChecks(t *testing.T, l []checkCase) {
	t.Helper()
	for _, c := range l {
		same(t, c.what, nest.Check(c.p), c.want)
	}
}

func arrays(l ...api.Array) api.Program { return api.Program{Arrays: l} }

func array(key string, sizes ...int) api.Array { return api.Array{Key: key, Sizes: sizes} }

func manyArrays(n int) []api.Array {
	var l []api.Array
	for i := range n {
		l = append(l, array("a"+strconv.Itoa(i), 1))
	}
	return l
}

func TestCheckArrays(t *testing.T) {
	runChecks(t, []checkCase{
		{"nothing", api.Program{}, api.OK},
		{"one", arrays(array("a", 1)), api.OK},
		{"most", arrays(manyArrays(api.MaxArrays)...), api.OK},
		{"too many", arrays(manyArrays(api.MaxArrays + 1)...), api.ErrLarge},
		{"too many, wrong ones", arrays(make([]api.Array, api.MaxArrays+1)...), api.ErrLarge},
		{"twice", arrays(array("a", 1), array("b", 1), array("a", 1)), api.ErrTwice},
		{"not rising", arrays(array("b", 1), array("a", 1)), api.OK},
		{"no sizes", arrays(array("a")), api.ErrNone},
		{"most sizes", arrays(array("a", 1, 2, 3, 4)), api.OK},
		{"too many sizes", arrays(array("a", 1, 1, 1, 1, 1)), api.ErrLarge},
		{"size 0", arrays(array("a", 2, 0)), api.ErrArg},
		{"size -1", arrays(array("a", -1, 2)), api.ErrArg},
		{"two sizes below 0", arrays(array("a", -1, -2)), api.ErrArg},
		{"full", arrays(array("a", api.MaxCells)), api.OK},
		{"size too great", arrays(array("a", api.MaxCells+1)), api.ErrArg},
		{"full together", arrays(array("a", 100, 100), array("b", 10, 10, 10, 10)), api.OK},
		{"too full together", arrays(array("a", 100, 100), array("b", 10, 10, 10, 10), array("c", 1)), api.ErrFull},
		{"too full alone", arrays(array("a", 201, 100)), api.ErrFull},
		{"as full as can be", arrays(array("a", 20_000, 20_000, 20_000, 20_000)), api.ErrFull},
	})
	for _, n := range extremes() {
		same(t, fmt.Sprint(n), nest.Check(arrays(array("a", n))), api.ErrArg)
		same(t, fmt.Sprint(n), nest.Check(arrays(array("a", n, n, n, n))), api.ErrArg)
	}
	for _, s := range someNames() {
		same(t, s, nest.Check(arrays(array(s, 1))), api.OK)
	}
	for _, s := range noNames() {
		same(t, s, nest.Check(arrays(array(s, 1))), api.ErrName)
	}
}

func TestCheckArraysInOrder(t *testing.T) {
	wrong := api.Step{}
	runChecks(t, []checkCase{
		{"name before sizes", arrays(array("")), api.ErrName},
		{"twice before sizes", arrays(array("a", 1), array("a")), api.ErrTwice},
		{"sizes before size", arrays(array("a", 0, 0, 0, 0, 0)), api.ErrLarge},
		{"size before cells", arrays(array("a", 20_000, 20_000, 0)), api.ErrArg},
		{"cells of the first before the second", arrays(array("a", 200, 200), array("")), api.ErrFull},
		{"all of the first before the second", arrays(array("a", 0), array("")), api.ErrArg},
		{"second name before its cells", arrays(array("a", 20_000), array("", 1)), api.ErrName},
		{"arrays before steps", api.Program{Arrays: []api.Array{array("a", 200, 200)}, Steps: []api.Step{wrong}}, api.ErrFull},
	})
}

// nested puts a step at a depth, into conditions; nestedLoops into loops.
func nested(deep int, s api.Step) api.Program {
	for range deep - 1 {
		s = when(s)
	}
	return steps(s)
}

func nestedLoops(deep int, s api.Step) api.Program {
	for i := range deep - 1 {
		s = loop("i"+strconv.Itoa(i), s)
	}
	return steps(s)
}

func TestCheckKindsAndDepth(t *testing.T) {
	good := set("s", number(1))
	runChecks(t, []checkCase{
		{"one", steps(good), api.OK},
		{"kind 0", steps(api.Step{}), api.ErrKind},
		{"kind 4", steps(api.Step{Kind: 4}), api.ErrKind},
		{"kind -1", steps(api.Step{Kind: -1}), api.ErrKind},
		{"kind 0 with more", steps(api.Step{Name: "s"}), api.ErrKind},
		{"deepest", nested(api.MaxDepth, good), api.OK},
		{"too deep", nested(api.MaxDepth+1, good), api.ErrLarge},
		{"too deep, no kind", nested(api.MaxDepth+1, api.Step{}), api.ErrLarge},
		{"deepest, no kind", nested(api.MaxDepth, api.Step{}), api.ErrKind},
		{"deepest in loops", nestedLoops(api.MaxDepth, good), api.OK},
		{"too deep in loops", nestedLoops(api.MaxDepth+1, good), api.ErrLarge},
		{"deep in both", nestedLoops(6, nested(7, good).Steps[0]), api.OK},
		{"too deep in both", nestedLoops(6, nested(8, good).Steps[0]), api.ErrLarge},
		{"empty bodies", steps(loop("i"), when()), api.OK},
	})
	for _, n := range extremes() {
		same(t, fmt.Sprint(n), nest.Check(steps(api.Step{Kind: n})), api.ErrKind)
	}
}

func TestCheckUnusedFields(t *testing.T) {
	f, b := []api.Form{form(0)}, []api.Bound{bound(form(0))}
	changes := map[string]func(s *api.Step){
		"name":       func(s *api.Step) { s.Name = "x" },
		"wrong name": func(s *api.Step) { s.Name = "X" },
		"low":        func(s *api.Step) { s.Low = b },
		"high":       func(s *api.Step) { s.High = b },
		"conds":      func(s *api.Step) { s.Conds = f },
		"body":       func(s *api.Step) { s.Body = []api.Step{{}} },
		"array":      func(s *api.Step) { s.Array = "a" },
		"subs":       func(s *api.Step) { s.Subs = f },
		"op":         func(s *api.Step) { s.Expr.Op = api.OpNumber },
		"no op":      func(s *api.Step) { s.Expr.Op = -1 },
		"n":          func(s *api.Step) { s.Expr.N = 1 },
		"const":      func(s *api.Step) { s.Expr.Form.Const = 1 },
		"terms":      func(s *api.Step) { s.Expr.Form.Terms = []api.Term{{}} },
		"read":       func(s *api.Step) { s.Expr.Array = "a" },
		"read at":    func(s *api.Step) { s.Expr.Subs = f },
		"args":       func(s *api.Step) { s.Expr.Args = []api.Expr{{}} },
	}
	unused := []struct {
		s      api.Step
		fields []string
	}{
		{loop("i"), []string{"conds", "array", "subs", "op", "no op", "n", "const", "terms", "read", "read at", "args"}},
		{when(), []string{"name", "wrong name", "low", "high", "array", "subs", "op", "no op", "n", "const", "terms", "read", "read at", "args"}},
		{set("s", number(1)), []string{"low", "high", "conds", "body"}},
	}
	for _, u := range unused {
		for _, field := range u.fields {
			s := u.s
			changes[field](&s)
			same(t, fmt.Sprint(s.Kind, field), nest.Check(steps(s)), api.ErrForm)
		}
	}
	// Lists without elements are zero.
	s := loop("i")
	s.Conds, s.Subs, s.Expr.Args, s.Expr.Subs, s.Expr.Form.Terms = []api.Form{}, []api.Form{}, []api.Expr{}, []api.Form{}, []api.Term{}
	same(t, "empty lists", nest.Check(steps(s)), api.OK)
}

func TestCheckStepNames(t *testing.T) {
	for _, s := range someNames() {
		if s != "a" {
			same(t, s, nest.Check(steps(loop(s))), api.OK)
		}
		same(t, s, nest.Check(steps(set(s, number(1)))), api.OK)
	}
	for _, s := range noNames() {
		same(t, s, nest.Check(steps(loop(s))), api.ErrName)
		same(t, s, nest.Check(steps(set(s, number(1)))), api.ErrName)
	}
	one := set("s", number(1))
	runChecks(t, []checkCase{
		{"loop in itself", steps(loop("i", loop("i"))), api.ErrTwice},
		{"loop far in itself", steps(loop("i", when(loop("j", loop("i"))))), api.ErrTwice},
		{"loops beside each other", steps(loop("i", loop("j")), loop("i"), loop("j", loop("i"))), api.OK},
		{"loop like an array", steps(loop("a")), api.ErrTwice},
		{"statement like an array", steps(set("a", number(1))), api.OK},
		{"statement like its loop", steps(loop("i", set("i", number(1)))), api.OK},
		{"loop like a statement", steps(one, loop("s")), api.OK},
		{"statement twice", steps(one, one), api.ErrTwice},
		{"statement again, elsewhere", steps(loop("i", one), when(loop("j", when(one)))), api.ErrTwice},
		{"form before name", steps(api.Step{Kind: api.StepLoop, Array: "a"}), api.ErrForm},
		{"name before bounds", steps(api.Step{Kind: api.StepLoop}), api.ErrName},
		{"twice before bounds", steps(api.Step{Kind: api.StepLoop, Name: "a"}), api.ErrTwice},
	})
}

func bounds(n int) []api.Bound {
	var l []api.Bound
	for range n {
		l = append(l, bound(form(0)))
	}
	return l
}

func from(low, high []api.Bound) api.Program {
	return steps(loop("j", api.Step{Kind: api.StepLoop, Name: "i", Low: low, High: high}))
}

func TestCheckLoops(t *testing.T) {
	one, most := bounds(1), bounds(api.MaxBounds)
	with := func(f api.Form, div int) []api.Bound { return []api.Bound{bound(form(0)), {Form: f, Div: div}} }
	runChecks(t, []checkCase{
		{"one and one", from(one, one), api.OK},
		{"most", from(most, most), api.OK},
		{"no low", from(nil, one), api.ErrNone},
		{"no high", from(one, nil), api.ErrNone},
		{"empty high", from(one, []api.Bound{}), api.ErrNone},
		{"too many low", from(bounds(api.MaxBounds+1), one), api.ErrLarge},
		{"too many high", from(one, bounds(api.MaxBounds+1)), api.ErrLarge},
		{"too many wrong ones", from(make([]api.Bound, api.MaxBounds+1), one), api.ErrLarge},
		{"high too many before low wrong", from(with(form(0, "", 1), 1), bounds(api.MaxBounds+1)), api.ErrLarge},
		{"loop around", from(with(form(0, "j", 1), 1), with(form(0, "j", -1), 1)), api.OK},
		{"itself in low", from(with(form(0, "i", 1), 1), one), api.ErrRule},
		{"itself in high", from(one, with(form(0, "i", 1), 1)), api.ErrRule},
		{"unknown", from(one, with(form(0, "j", 1, "k", 1), 1)), api.ErrRule},
		{"array", from(one, with(form(0, "a", 1), 1)), api.ErrRule},
		{"div 0", from(with(form(0), 0), one), api.ErrArg},
		{"div -1", from(with(form(0), -1), one), api.ErrArg},
		{"div most", from(with(form(0), api.MaxDiv), with(form(0), api.MaxDiv)), api.OK},
		{"div too great", from(one, with(form(0), api.MaxDiv+1)), api.ErrArg},
		{"form of a bound", from(with(form(0, "j", 0), 1), one), api.ErrArg},
		{"order of terms", from(one, with(form(0, "k", 1, "j", 1), 1)), api.ErrOrder},
		{"form before rule", from(with(form(0, "k", 1, "j", 0), 1), one), api.ErrArg},
		{"rule before div", from(with(form(0, "k", 1), 0), one), api.ErrRule},
		{"div before the next", from([]api.Bound{{}, bound(form(0, "", 1))}, one), api.ErrArg},
		{"low before high", from(with(form(0), 0), with(form(0, "", 1), 1)), api.ErrArg},
	})
	for _, n := range extremes() {
		same(t, fmt.Sprint(n), nest.Check(from(with(form(0), n), one)), api.ErrArg)
	}
	// A loop is around only until it ends.
	same(t, "loop before", nest.Check(steps(loop("i"), set("s", formed(form(0, "i", 1))))), api.ErrRule)
	same(t, "loop inside", nest.Check(steps(loop("j", loop("i"), set("s", formed(form(0, "i", 1)))))), api.ErrRule)
	same(t, "loops around", nest.Check(steps(loop("j", loop("i", set("s", formed(form(0, "i", 1, "j", 1))))))), api.OK)
}

func TestCheckConditions(t *testing.T) {
	with := func(l ...api.Form) api.Program {
		return steps(loop("i", api.Step{Kind: api.StepIf, Conds: l}))
	}
	runChecks(t, []checkCase{
		{"one", with(form(0, "i", 1)), api.OK},
		{"none", with(), api.ErrNone},
		{"most", with(make([]api.Form, api.MaxBounds)...), api.OK},
		{"too many", with(make([]api.Form, api.MaxBounds+1)...), api.ErrLarge},
		{"too many wrong ones", with(append(make([]api.Form, api.MaxBounds), form(0, "", 1))...), api.ErrLarge},
		{"wrong form", with(form(0), form(0, "i", 0)), api.ErrArg},
		{"unknown", with(form(0), form(0, "k", 1)), api.ErrRule},
		{"form before rule", with(form(0, "k", 1, "k", 1)), api.ErrOrder},
		{"rule before the next form", with(form(0, "k", 1), form(0, "", 1)), api.ErrRule},
		{"conditions before body", steps(api.Step{Kind: api.StepIf, Body: []api.Step{{}}}), api.ErrNone},
	})
}

func TestCheckStatements(t *testing.T) {
	two := []api.Array{array("a", 4), array("b", 2, 2)}
	with := func(array string, subs ...api.Form) api.Program {
		s := api.Step{Kind: api.StepSet, Name: "s", Array: array, Subs: subs, Expr: number(1)}
		return api.Program{Arrays: two, Steps: []api.Step{loop("i", s)}}
	}
	runChecks(t, []checkCase{
		{"one size", with("a", form(0)), api.OK},
		{"two sizes", with("b", form(0), form(5, "i", 1)), api.OK},
		{"outside", with("a", form(-1)), api.OK},
		{"unknown array", with("c", form(0)), api.ErrNone},
		{"no array", with("", form(0)), api.ErrNone},
		{"loop as array", with("i", form(0)), api.ErrNone},
		{"too few subs", with("b", form(0)), api.ErrForm},
		{"too many subs", with("a", form(0), form(0)), api.ErrForm},
		{"no subs", with("a"), api.ErrForm},
		{"wrong form", with("b", form(0), form(0, "i", 0)), api.ErrArg},
		{"unknown variable", with("b", form(0), form(0, "k", 1)), api.ErrRule},
		{"array before subs", with("c", form(0, "", 1)), api.ErrNone},
		{"number of subs before forms", with("a", form(0, "", 1), form(0)), api.ErrForm},
		{"rule before the next form", with("b", form(0, "k", 1), form(0, "", 1)), api.ErrRule},
		{"subs before expr", steps(api.Step{Kind: api.StepSet, Name: "s", Array: "a", Subs: []api.Form{form(0, "k", 1)}}), api.ErrRule},
		{"twice before array", steps(set("s", number(1)), api.Step{Kind: api.StepSet, Name: "s"}), api.ErrTwice},
		{"no expr", steps(set("s", api.Expr{})), api.ErrKind},
	})
}

// chain is an expression of a depth.
func chain(deep int, last api.Expr) api.Expr {
	for range deep - 1 {
		last = both(api.OpAdd, number(0), last)
	}
	return last
}

func TestCheckExpressions(t *testing.T) {
	zero := form(0)
	with := func(x api.Expr) api.Program {
		return api.Program{Arrays: []api.Array{array("a", 4), array("b", 2, 2)}, Steps: []api.Step{loop("i", set("s", x))}}
	}
	runChecks(t, []checkCase{
		{"number", with(number(0)), api.OK},
		{"greatest number", with(number(api.Prime - 1)), api.OK},
		{"number too great", with(number(api.Prime)), api.ErrArg},
		{"number below 0", with(number(-1)), api.ErrArg},
		{"form", with(formed(form(-9, "i", 1))), api.OK},
		{"form empty", with(formed(form(0))), api.OK},
		{"wrong form", with(formed(form(0, "i", 0))), api.ErrArg},
		{"unknown in form", with(formed(form(0, "k", 1))), api.ErrRule},
		{"form before rule", with(formed(form(0, "k", 1, "l", 0))), api.ErrArg},
		{"read", with(read("b", zero, form(1, "i", 1))), api.OK},
		{"read nothing", with(read("")), api.ErrNone},
		{"read unknown", with(read("c", form(0, "", 1))), api.ErrNone},
		{"read at too few", with(read("b", form(0, "", 1))), api.ErrForm},
		{"read at too many", with(read("a", zero, zero)), api.ErrForm},
		{"read at wrong form", with(read("b", zero, form(0, "i", 0))), api.ErrArg},
		{"read at unknown", with(read("b", zero, form(0, "k", 1))), api.ErrRule},
		{"read at unknown before wrong", with(read("b", form(0, "k", 1), form(0, "i", 0))), api.ErrRule},
		{"op 0", with(api.Expr{}), api.ErrKind},
		{"op 7", with(api.Expr{Op: 7}), api.ErrKind},
		{"op -1", with(api.Expr{Op: -1, N: -1}), api.ErrKind},
		{"deepest", with(chain(api.MaxDepth, number(1))), api.OK},
		{"too deep", with(chain(api.MaxDepth+1, number(1))), api.ErrLarge},
		{"too deep, no op", with(chain(api.MaxDepth+1, api.Expr{})), api.ErrLarge},
		{"deepest, no op", with(chain(api.MaxDepth, api.Expr{})), api.ErrKind},
		{"first arg first", with(both(api.OpMul, number(-1), api.Expr{})), api.ErrArg},
		{"all of the first arg first", with(both(api.OpMul, both(api.OpSub, number(0), read("c")), api.Expr{})), api.ErrNone},
		{"second arg", with(both(api.OpMul, number(1), api.Expr{})), api.ErrKind},
	})
	for _, n := range extremes() {
		same(t, fmt.Sprint(n), nest.Check(with(number(n))), api.ErrArg)
		same(t, fmt.Sprint(n), nest.Check(with(api.Expr{Op: n})), api.ErrKind)
	}
}

func TestCheckExpressionsFields(t *testing.T) {
	args := func(n int) []api.Expr {
		var l []api.Expr
		for range n {
			l = append(l, number(1))
		}
		return l
	}
	for op := api.OpNumber; op <= api.OpMul; op++ {
		for n := range 4 {
			x := api.Expr{Op: op, Args: args(n)}
			if op == api.OpRead {
				x.Array, x.Subs = "a", []api.Form{form(0)}
			}
			want := api.ErrForm
			if op >= api.OpAdd && n == 2 || op < api.OpAdd && n == 0 {
				want = api.OK
			}
			same(t, fmt.Sprint("args ", op, n), nest.Check(steps(set("s", x))), want)
		}
	}
	base := func(op int) api.Expr {
		switch op {
		case api.OpNumber:
			return number(1)
		case api.OpForm:
			return formed(form(1))
		case api.OpRead:
			return read("a", form(0))
		}
		return both(op, number(1), number(1))
	}
	for op := api.OpNumber; op <= api.OpMul; op++ {
		for field := range 5 {
			x := base(op)
			used := 0
			switch field {
			case 0:
				x.N, used = 2, api.OpNumber
			case 1:
				x.Form.Const, used = 2, api.OpForm
			case 2:
				x.Form.Terms, used = []api.Term{{Name: "i", Coef: 1}}, api.OpForm
			case 3:
				x.Array, used = "a", api.OpRead
			case 4:
				x.Subs, used = []api.Form{form(0)}, api.OpRead
			}
			want := api.ErrForm
			if op == used {
				want = api.OK
			}
			same(t, fmt.Sprint("field ", op, field), nest.Check(steps(loop("i", set("s", x)))), want)
		}
	}
	same(t, "form before number", nest.Check(steps(set("s", api.Expr{Op: api.OpNumber, N: -1, Array: "a"}))), api.ErrForm)
	same(t, "below 0 unused", nest.Check(steps(set("s", api.Expr{Op: api.OpForm, N: -1}))), api.ErrForm)
	same(t, "args that are wrong, too many", nest.Check(steps(set("s", api.Expr{Op: api.OpAdd, Args: make([]api.Expr, 3)}))), api.ErrForm)
}

func TestCheckGoesThroughSteps(t *testing.T) {
	wrong := func(kind int) api.Step { return api.Step{Kind: kind} }
	runChecks(t, []checkCase{
		{"outside before inside", steps(api.Step{Kind: api.StepIf, Body: []api.Step{wrong(9)}}), api.ErrNone},
		{"in order", steps(wrong(api.StepLoop), wrong(9)), api.ErrName},
		{"in order, turned", steps(wrong(9), wrong(api.StepLoop)), api.ErrKind},
		{"in a body", steps(when(set("s", number(1)), wrong(api.StepIf), wrong(9))), api.ErrNone},
		{"a body before what stands behind it", steps(when(wrong(9)), wrong(api.StepIf)), api.ErrKind},
		{"good before wrong", steps(loop("i", set("s", number(1))), wrong(api.StepIf)), api.ErrNone},
	})
}

func manySteps(n int) api.Program {
	p := steps()
	for i := 0; i < n; i += 2 {
		if i+1 < n {
			p.Steps = append(p.Steps, when(set("s"+strconv.Itoa(i), number(1))))
		} else {
			p.Steps = append(p.Steps, loop("i"))
		}
	}
	return p
}

func TestCheckCountsSteps(t *testing.T) {
	same(t, "most", nest.Check(manySteps(api.MaxSteps)), api.OK)
	same(t, "too many", nest.Check(manySteps(api.MaxSteps+1)), api.ErrLarge)
	same(t, "too many at one place", nest.Check(steps(make([]api.Step, 1000)...)), api.ErrKind)
	p := manySteps(api.MaxSteps + 1)
	p.Steps = append(p.Steps, set("s0", number(1)))
	same(t, "too many is asked last", nest.Check(p), api.ErrTwice)
}
