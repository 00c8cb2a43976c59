package nest_test

import (
	"fmt"
	"strings"
	"sync"
	"testing"

	"warpbeam/api"
	"warpbeam/nest"
)

// scrap overwrites whatever lists a program has.
func scrap(p *api.Program) {
	for i := range p.Arrays {
		for j := range p.Arrays[i].Sizes {
			p.Arrays[i].Sizes[j] = -9
		}
		p.Arrays[i].Key = "!"
	}
	scrapSteps(p.Steps)
}

func scrapSteps(l []api.Step) {
	for i := range l {
		for _, b := range append(append([]api.Bound{}, l[i].Low...), l[i].High...) {
			scrapForms([]api.Form{b.Form})
		}
		for j := range l[i].Low {
			l[i].Low[j] = api.Bound{Div: -9}
		}
		for j := range l[i].High {
			l[i].High[j] = api.Bound{Div: -9}
		}
		scrapForms(l[i].Conds)
		scrapForms(l[i].Subs)
		scrapExprs([]api.Expr{l[i].Expr})
		scrapSteps(l[i].Body)
		l[i].Name = "!"
	}
}

func scrapForms(l []api.Form) {
	for i := range l {
		for j := range l[i].Terms {
			l[i].Terms[j] = api.Term{Name: "!", Coef: -9}
		}
		l[i].Const = -9
	}
}

func scrapExprs(l []api.Expr) {
	for i := range l {
		scrapForms([]api.Form{l[i].Form})
		scrapForms(l[i].Subs)
		scrapExprs(l[i].Args)
		l[i].Op = -9
	}
}

// Z2: results are new memory.
func TestResultsShareNothing(t *testing.T) {
	p := program(t, all)
	for _, names := range []string{"", "i q a z"} {
		q, e := nest.Renamed(p, pairs(names))
		same(t, names, e, api.OK)
		scrap(&q)
		same(t, "Renamed", written(t, p), all)
	}
	for _, key := range []string{"s", "t", "u"} {
		s, around, _ := nest.Statement(p, key)
		scrapSteps([]api.Step{s})
		scrapSteps(around)
		same(t, "Statement", written(t, p), all)
	}
	l, _ := nest.Statements(p)
	r, w, _ := nest.Used(p)
	l[0], r[0], w[0] = "!", "!", "!"
	same(t, "names", written(t, p), all)
	scrap(&p)
	p = program(t, all)
	same(t, "Read", written(t, p), all)
	f, g := form(3, "i", 2, "j", -1), form(4, "k", 1)
	for range 2 {
		a, _ := nest.Sum(f, 1, g, 0)
		b, _ := nest.Sum(g, 0, f, 1)
		c, _ := nest.Put(f, "x", g)
		d, _ := nest.Put(form(0, "x", 1), "x", f)
		scrapForms([]api.Form{a, b, c, d})
	}
	same(t, "forms", []api.Form{f, g}, []api.Form{form(3, "i", 2, "j", -1), form(4, "k", 1)})
}

// Z2: what was made stays as it is when arguments are changed later.
func TestArgumentsAreNotKept(t *testing.T) {
	p := program(t, all)
	q, _ := nest.Renamed(p, nil)
	s, around, _ := nest.Statement(p, "t")
	before := fmt.Sprint(s, around)
	scrap(&p)
	same(t, "Renamed", written(t, q), all)
	same(t, "Statement", fmt.Sprint(s, around), before)
}

// Z2: what is in the memory of a list after its length is not looked at, and not changed.
func TestMemoryBehindLists(t *testing.T) {
	wrong := form(-9, "!", 0)
	room := func(f api.Form) api.Form {
		l := append(append([]api.Term{}, f.Terms...), wrong.Terms...)
		return api.Form{Const: f.Const, Terms: l[:len(f.Terms)]}
	}
	f, g := room(form(3, "i", 2)), room(form(4, "i", 3, "k", 1))
	same(t, "CheckForm", nest.CheckForm(f), api.OK)
	sum, e := nest.Sum(f, 1, g, 1)
	same(t, "Sum", []any{sum, e}, []any{form(7, "i", 5, "k", 1), api.OK})
	put, e := nest.Put(f, "i", g)
	same(t, "Put", []any{put, e}, []any{form(11, "i", 6, "k", 2), api.OK})
	same(t, "behind", []any{f.Terms[:2], g.Terms[:3]}, []any{form(0, "i", 2, "!", 0).Terms, form(0, "i", 3, "k", 1, "!", 0).Terms})
	p := steps(loop("i", set("s", number(1)), api.Step{Name: "!"}), api.Step{Name: "!"})
	p.Arrays = append(p.Arrays, array("!"))
	p.Arrays, p.Steps, p.Steps[0].Body = p.Arrays[:1], p.Steps[:1], p.Steps[0].Body[:1]
	text := written(t, p)
	same(t, "Text", text, "array a[4];\nfor i = 0 .. 3 {\n  s: a[0] = 1;\n}\n")
	for range 2 {
		q, e := nest.Renamed(p, pairs("s t"))
		same(t, "Renamed", []any{len(q.Arrays), len(q.Steps), len(q.Steps[0].Body), e}, []any{1, 1, 1, api.OK})
		_, _, e = nest.Statement(p, "s")
		same(t, "Statement", e, api.OK)
	}
	same(t, "behind", []any{p.Arrays[:2][1].Key, p.Steps[:2][1].Name, p.Steps[0].Body[:2][1].Name}, []any{"!", "!", "!"})
}

// Z1: values that hold themselves have no end, but calls do.
func TestEndlessValues(t *testing.T) {
	body := make([]api.Step, 2)
	body[0], body[1] = when(body...), when(body...)
	body[0].Body, body[1].Body = body, body
	same(t, "steps", nest.Check(api.Program{Steps: body}), api.ErrLarge)
	args := make([]api.Expr, 2)
	args[0] = api.Expr{Op: api.OpAdd, Args: args}
	args[1] = args[0]
	same(t, "expressions", nest.Check(steps(set("s", args[0]))), api.ErrLarge)
	_, e := nest.Text(steps(set("s", args[0])))
	same(t, "text", e, api.ErrLarge)
}

// Z1: arguments with up to 200,000 elements and bytes.
func TestLargeValues(t *testing.T) {
	const many = 200_000
	l := make([]api.Step, many)
	for i := range l {
		l[i] = when()
	}
	same(t, "steps", nest.Check(steps(l...)), api.ErrLarge)
	same(t, "arrays", nest.Check(arrays(make([]api.Array, many)...)), api.ErrLarge)
	same(t, "sizes", nest.Check(arrays(array("a", make([]int, many)...))), api.ErrLarge)
	same(t, "terms", nest.CheckForm(api.Form{Terms: make([]api.Term, many)}), api.ErrLarge)
	same(t, "name", nest.CheckForm(form(0, strings.Repeat("a", many), 1)), api.ErrName)
	x := make(api.Point, many)
	for i := range x {
		x[i] = api.Slot{Name: fmt.Sprintf("v%06d", i), Value: i}
	}
	n, e := nest.Value(form(1, "v000007", 1, "v199999", 2), x)
	same(t, "point", []any{n, e}, []any{1 + 7 + 2*199_999, api.OK})
	_, ok, e := nest.Cell(array("a", 2), make([]int, many))
	same(t, "index", []any{ok, e}, []any{false, api.ErrForm})
	for _, part := range []string{"(", "if 0>=0{", "s:a[", "for i=0..0{", "1+", "-", "#", "array a[1];", "<", "a[0]*("} {
		text := "array a[4]; s: a[0] = " + strings.Repeat(part, 49_000/len(part))
		_, _, e := nest.Read(text)
		same(t, part, e, api.ErrSyntax)
		_, _, e = nest.ReadForm(text[22:])
		same(t, part, e, api.ErrSyntax)
		_, _, e = nest.Read(text[22:])
		same(t, part, e == api.OK, part == "#")
	}
	_, _, e = nest.Read(strings.Repeat("(", many))
	same(t, "text", e, api.ErrLarge)
}

// Z1 and Z7: calls of several goroutines do not disturb each other, and always have the same results.
func TestCallsAtOnce(t *testing.T) {
	p := program(t, all)
	once := func() string {
		text, e := nest.Text(p)
		q, at, f := nest.Read(text)
		l, g := nest.Statements(p)
		s, around, h := nest.Statement(p, "t")
		r, w, i := nest.Used(p)
		m, j := nest.Renamed(p, pairs("a b b a i x"))
		sum, k := nest.Sum(terms(12), 2, form(0, "va", 1, "vc", -2, "vl", 5), 3)
		return fmt.Sprint(text, e, q, at, f, l, g, s, around, h, r, w, i, m, j, sum, k)
	}
	want := once()
	var group sync.WaitGroup
	for range 8 {
		group.Go(func() {
			for range 20 {
				if got := once(); got != want {
					t.Errorf("got %s, want %s", short(got), short(want))
				}
			}
		})
	}
	group.Wait()
}
