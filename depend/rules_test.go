package depend_test

import (
	"fmt"
	"slices"
	"strconv"
	"strings"
	"sync"
	"testing"

	"warpbeam/api"
	"warpbeam/depend"
	"warpbeam/nest"
)

// arguments are those of all functions.
type arguments struct {
	program   api.Program
	order     []int
	form      api.Form
	low, high api.Point
}

func args(t *testing.T) arguments {
	a := arguments{program: program(t, nested), form: form(t, "2*i - 4*j + 3"), low: point(t, "i 0, j 1"), high: point(t, "i 5, j 2")}
	w, _, _ := depend.Waves(a.program)
	for i := range w {
		a.order = append(a.order, i)
	}
	slices.SortStableFunc(a.order, func(i, j int) int { return w[i] - w[j] })
	return a
}

// summary is the results of all functions.
func (a arguments) summary() string {
	l := results(a.program, 0, a.order)
	is, e := depend.Solvable(a.form)
	l = append(l, fmt.Sprint("Solvable ", is, e))
	least, most, e := depend.Span(a.form, a.low, a.high)
	l = append(l, fmt.Sprint("Span ", least, most, e))
	for _, s := range []string{"s", "t", "u", "v"} {
		is, e := depend.Apart(a.program, s, "v")
		l = append(l, fmt.Sprint("Apart ", is, e))
	}
	return strings.Join(l, "\n")
}

// Z2: arguments are not changed.
func TestArgumentsStay(t *testing.T) {
	a := args(t)
	want := fmt.Sprintf("%+v", a)
	a.summary()
	same(t, "arguments", fmt.Sprintf("%+v", a), want)
}

// Z2: results are new memory: changing them changes neither later results nor other parts.
func TestResultsShareNothing(t *testing.T) {
	a := args(t)
	want := a.summary()
	direct, _ := depend.Direct(a.program)
	clear(direct)
	relations, _ := depend.Relations(a.program)
	scrapRelations(t, relations)
	carried, _ := depend.Carried(a.program, 0)
	scrapRelations(t, carried)
	free, _ := depend.Free(a.program)
	clear(free)
	graph, _ := depend.Graph(a.program)
	clear(graph)
	waves, _, _ := depend.Waves(a.program)
	clear(waves)
	groups, _ := depend.Groups(program(t, "array a[9]; array b[9]; for i = 1 .. 3 { s: a[i] = b[i - 1]; t: b[i] = a[i]; } u: a[0] = 1;"))
	groups[0] = append(groups[0], "x")
	groups[0][0] = "x"
	same(t, "Groups", groups[1], []string{"u"})
	same(t, "all", a.summary(), want)
}

// scrapRelations changes one list after the other, and looks at all others.
func scrapRelations(t *testing.T, l []api.Relation) {
	t.Helper()
	for i, r := range l {
		most := slices.Clone(r.Most)
		want := summed(l[i+1:])
		for j := range r.Least {
			r.Least[j] = -99
		}
		_ = append(r.Least, -99, -99)
		same(t, "Most", r.Most, most)
		for j := range r.Most {
			r.Most[j] = 99
		}
		_ = append(r.Most, 99, 99)
		same(t, "others", summed(l[i+1:]), want)
	}
	clear(l)
}

// Z2: what was made stays as it is when arguments are changed later.
func TestArgumentsAreNotKept(t *testing.T) {
	a := args(t)
	want := fmt.Sprint(results(a.program, 0, a.order))
	l, _ := depend.Relations(a.program)
	g, _ := depend.Groups(a.program)
	before := summed(l) + grouped(g)
	clear(a.program.Steps[0].Body)
	clear(a.program.Steps)
	clear(a.program.Arrays)
	clear(a.order)
	same(t, "results", summed(l)+grouped(g), before)
	b := args(t)
	same(t, "all", fmt.Sprint(results(b.program, 0, b.order)), want)
}

// behind puts something wrong behind all lists of steps.
func behind(l []api.Step) []api.Step {
	l = append(slices.Clone(l), api.Step{Kind: -9})
	l = l[:len(l)-1]
	for i, s := range l {
		bad := api.Form{Const: -9}
		l[i].Body = behind(s.Body)
		l[i].Low = append(slices.Clone(s.Low), api.Bound{Form: bad})[:len(s.Low)]
		l[i].High = append(slices.Clone(s.High), api.Bound{Form: bad})[:len(s.High)]
		l[i].Conds = append(slices.Clone(s.Conds), bad)[:len(s.Conds)]
		l[i].Subs = append(slices.Clone(s.Subs), bad)[:len(s.Subs)]
		l[i].Expr.Args = append(slices.Clone(s.Expr.Args), api.Expr{Op: -9})[:len(s.Expr.Args)]
	}
	return l
}

// Z2: what is in the memory of a list after its length is not looked at, and stays.
func TestMemoryBehindLists(t *testing.T) {
	a := args(t)
	want := a.summary()
	a.program.Steps = behind(a.program.Steps)
	n := len(a.program.Arrays)
	a.program.Arrays = append(a.program.Arrays, api.Array{Key: "!"})[:n]
	m := len(a.order)
	a.order = append(a.order, -9)[:m]
	a.form.Terms = append(a.form.Terms, api.Term{Name: "!"})[:2]
	a.low = append(a.low, api.Slot{Name: "!"})[:2]
	a.high = append(a.high, api.Slot{Name: "!"})[:2]
	same(t, "all", a.summary(), want)
	same(t, "behind", []any{a.program.Arrays[:n+1][n].Key, a.order[:m+1][m], a.form.Terms[:3][2].Name, a.low[:3][2].Name, a.high[:3][2].Name}, "[! -9 ! ! !]")
	same(t, "behind", a.program.Steps[:len(a.program.Steps)+1][len(a.program.Steps)].Kind, -9)
}

// Z1: programs that hold themselves have no end, but calls do.
func TestEndlessValues(t *testing.T) {
	body := []api.Step{{Kind: api.StepIf, Conds: []api.Form{{}}}, {Kind: api.StepIf, Conds: []api.Form{{}}}}
	body[0].Body, body[1].Body = body, body
	p := api.Program{Steps: body}
	same(t, "results", results(p, 0, nil)[0], fmt.Sprintf("Direct %+v", []any{[]int{}, api.ErrLarge}))
	_, e := depend.Apart(p, "s", "s")
	same(t, "Apart", e, api.ErrLarge)
}

// Z1: arguments as large as they can be.
func TestLargeValues(t *testing.T) {
	const most = 200_000
	p := program(t, example)
	_, e := depend.Keeps(p, make([]int, most))
	same(t, "Keeps", e, api.ErrForm)
	large := api.Form{Terms: make([]api.Term, most)}
	_, e = depend.Solvable(large)
	same(t, "Solvable", e, api.ErrLarge)
	_, e = depend.Apart(p, strings.Repeat("a", most), "s")
	same(t, "Apart", e, api.ErrName)
	_, e = depend.Apart(p, "s", strings.Repeat("a", most))
	same(t, "Apart", e, api.ErrName)
	_, _, e = depend.Span(form(t, "i"), make(api.Point, most), nil)
	same(t, "Span", e, api.ErrName)
	var low, high api.Point
	for i := range most {
		name := fmt.Sprintf("a%06d", i)
		low, high = append(low, api.Slot{Name: name, Value: -i}), append(high, api.Slot{Name: name, Value: i})
	}
	a, b, e := depend.Span(form(t, "a000003 - 2*a199999"), low, high)
	same(t, "Span", []any{a, b, e}, []any{-400_001, 400_001, api.OK})
	_, _, e = depend.Span(form(t, "a000003 - 2*a199999"), low, high[:most-1])
	same(t, "Span", e, api.ErrForm)
}

// Z1: as many accesses as there can be have an end soon.
func TestManyAccesses(t *testing.T) {
	p := program(t, "array a[3]; for i = 0 .. 1 { for j = 0 .. 24998 { s: a[2] = a[0] + a[1] * a[0]; } t: a[0] = 1; }")
	l, e := depend.Relations(p)
	same(t, "Relations", []any{summed(l), e}, []any{"output s s a level 1: 1 [1 -24998] [1 -24998], output s s a level 2: 49996 [0 1] [0 1], anti s t a level 0: 49998 [0] [0], flow t s a level 1: 24999 [1] [1], output t t a level 1: 1 [1] [1]", api.OK})
	_, n, e := depend.Waves(p)
	same(t, "Waves", []any{n, e}, []any{50_000, api.OK})
}

// Z1: as many statements as there can be, each of which leads to many others.
func TestManyStatements(t *testing.T) {
	const many = api.MaxSteps - 1
	var b strings.Builder
	b.WriteString("array a[1]; array b[300]; for i = 0 .. 1 { ")
	for i := range many {
		n := strconv.Itoa(i)
		b.WriteString("s" + n + ": b[" + n + "] = b[" + strconv.Itoa(many-1-i) + "] + a[0]; ")
	}
	p := program(t, b.String()+"}")
	l, e := depend.Groups(p)
	same(t, "Groups", []any{len(l), len(l[0]), l[0][0], l[0][1], l[149], e}, []any{150, 2, "s0", "s298", "[s149]", api.OK})
	names, _ := nest.Statements(p)
	q := program(t, strings.ReplaceAll(b.String(), "a[0]", "b[0] * b[298]")+"}")
	l, e = depend.Groups(q)
	same(t, "Groups", []any{l, e}, []any{[][]string{names}, api.OK})
}

// Z1: statements that read as much as an expression can, and are apart just at the last index.
func TestApartOfManyReads(t *testing.T) {
	p := program(t, "array a[9, 9, 9, 9]; array b[9]; for i = 0 .. 1 { s: a[2*i, 2*i, 2*i, 2*i + 1] = a[2*i, 2*i, 2*i, 2*i]; t: b[i] = a[2*i, 2*i, 2*i, 2*i]; }")
	for i, s := range p.Steps[0].Body {
		p.Steps[0].Body[i].Expr = readsOf(s.Expr, 1)
	}
	is, e := depend.Apart(p, "s", "t")
	same(t, "Apart", []any{is, e}, []any{true, api.OK})
	is, e = depend.Apart(p, "t", "t")
	same(t, "Apart", []any{is, e}, []any{false, api.OK})
}

// readsOf is a sum that reads the same as often as it can.
func readsOf(x api.Expr, depth int) api.Expr {
	if depth == api.MaxDepth {
		return x
	}
	y := readsOf(x, depth+1)
	return api.Expr{Op: api.OpAdd, Args: []api.Expr{y, y}}
}

// Z1 and Z7: calls of several goroutines do not disturb each other, and always have the same results.
func TestCallsAtOnce(t *testing.T) {
	a := args(t)
	want := a.summary()
	var group sync.WaitGroup
	for range 8 {
		group.Go(func() {
			for range 20 {
				if got := a.summary(); got != want {
					t.Errorf("got %s, want %s", short(got), short(want))
				}
			}
		})
	}
	group.Wait()
}
