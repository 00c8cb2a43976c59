package nest_test

import (
	"fmt"
	"strconv"
	"strings"
	"testing"

	"warpbeam/api"
	"warpbeam/nest"
)

func TestFormText(t *testing.T) {
	cases := []struct {
		f    api.Form
		want string
	}{
		{form(3, "i", 2, "j", -1), "2*i - j + 3"},
		{form(0), "0"},
		{form(7), "7"},
		{form(-7), "-7"},
		{form(0, "i", 1), "i"},
		{form(0, "i", -1), "-i"},
		{form(0, "i", -2), "-2*i"},
		{form(1, "i", 1), "i + 1"},
		{form(-1, "i", 1), "i - 1"},
		{form(0, "i", 1, "j", 1), "i + j"},
		{form(-1_000_000, "i", -1000, "j", 1000, "k", -1), "-1000*i + 1000*j - k - 1000000"},
		{form(1_000_000, "i_1", 1), "i_1 + 1000000"},
	}
	for _, c := range cases {
		s, e := nest.FormText(c.f)
		same(t, c.want, []any{s, e}, []any{c.want, api.OK})
		f, at, e := nest.ReadForm(c.want)
		same(t, c.want, []any{f, at, e}, []any{c.f, 0, api.OK})
	}
	for _, f := range []api.Form{form(api.MaxConst + 1), form(0, "i", 0), form(0, "", 1), form(0, "j", 1, "i", 1), terms(13)} {
		s, e := nest.FormText(f)
		same(t, fmt.Sprint(f), []any{s, e}, []any{"", nest.CheckForm(f)})
	}
}

// All that can stand in a program, as it is written.
const all = `array a[10];
array b[3, 4];
array c[2, 2, 2, 2];
for i = 1 .. 9 {
  s: a[i] = a[i - 1] * 3 + <i>;
  for j = max(0, i - 5) .. min(3, (2*i + 1)/3, i) {
    if i - j >= 0, 5 >= 0 {
      t: b[j, 0] = <-i + j>;
      for k = (-i)/2 .. (0)/250 {
      }
    }
  }
}
if 0 >= 0 {
}
u: c[0, 1, -1, 1] = 1000002;
`

func TestTextOfAll(t *testing.T) {
	p := program(t, all)
	same(t, "text", written(t, p), all)
	same(t, "arrays", p.Arrays, []api.Array{array("a", 10), array("b", 3, 4), array("c", 2, 2, 2, 2)})
	same(t, "steps", len(p.Steps), 3)
	l := p.Steps[0]
	same(t, "loop", []any{l.Kind, l.Name, l.Low, l.High, len(l.Body)}, []any{api.StepLoop, "i", []api.Bound{bound(form(1))}, []api.Bound{bound(form(9))}, 2})
	same(t, "s", l.Body[0], api.Step{Kind: api.StepSet, Name: "s", Array: "a", Subs: []api.Form{form(0, "i", 1)}, Expr: both(api.OpAdd, both(api.OpMul, read("a", form(-1, "i", 1)), number(3)), formed(form(0, "i", 1)))})
	j := l.Body[1]
	same(t, "j", []any{j.Low, j.High}, []any{
		[]api.Bound{bound(form(0)), bound(form(-5, "i", 1))},
		[]api.Bound{bound(form(3)), {Form: form(1, "i", 2), Div: 3}, bound(form(0, "i", 1))}})
	same(t, "if", []any{j.Body[0].Kind, j.Body[0].Conds}, []any{api.StepIf, []api.Form{form(0, "i", 1, "j", -1), form(5)}})
	same(t, "k", j.Body[0].Body[1], api.Step{Kind: api.StepLoop, Name: "k", Low: []api.Bound{{Form: form(0, "i", -1), Div: 2}}, High: []api.Bound{{Form: form(0), Div: 250}}})
	same(t, "u", p.Steps[2], api.Step{Kind: api.StepSet, Name: "u", Array: "c", Subs: []api.Form{form(0), form(1), form(-1), form(1)}, Expr: number(1000002)})
}

func TestTextOfNothing(t *testing.T) {
	same(t, "nothing", written(t, api.Program{}), "")
	same(t, "array", written(t, steps()), "array a[4];\n")
	same(t, "nothing", program(t, ""), api.Program{})
	s, e := nest.Text(steps(api.Step{}))
	same(t, "wrong", []any{s, e}, []any{"", api.ErrKind})
}

// sums makes an expression of numbers and operators, all with two Args: `(+ 1 2)`.
func sums(words []string) (api.Expr, []string) {
	if words[0] != "(" {
		n, _ := strconv.Atoi(words[0])
		return number(n), words[1:]
	}
	op := api.OpAdd + strings.Index("+-*", words[1])
	x, rest := sums(words[2:])
	y, rest := sums(rest)
	return both(op, x, y), rest[1:]
}

func TestTextOfExpressions(t *testing.T) {
	cases := []struct{ tree, want string }{
		{"( + 1 2 )", "1 + 2"},
		{"( - 1 2 )", "1 - 2"},
		{"( * 1 2 )", "1 * 2"},
		{"( + ( + 1 2 ) 3 )", "1 + 2 + 3"},
		{"( + ( - 1 2 ) 3 )", "1 - 2 + 3"},
		{"( - ( + 1 2 ) 3 )", "1 + 2 - 3"},
		{"( - ( - 1 2 ) 3 )", "1 - 2 - 3"},
		{"( + 1 ( + 2 3 ) )", "1 + (2 + 3)"},
		{"( + 1 ( - 2 3 ) )", "1 + (2 - 3)"},
		{"( - 1 ( + 2 3 ) )", "1 - (2 + 3)"},
		{"( - 1 ( - 2 3 ) )", "1 - (2 - 3)"},
		{"( + 1 ( * 2 3 ) )", "1 + 2 * 3"},
		{"( - 1 ( * 2 3 ) )", "1 - 2 * 3"},
		{"( + ( * 1 2 ) 3 )", "1 * 2 + 3"},
		{"( - ( * 1 2 ) 3 )", "1 * 2 - 3"},
		{"( * ( + 1 2 ) 3 )", "(1 + 2) * 3"},
		{"( * ( - 1 2 ) 3 )", "(1 - 2) * 3"},
		{"( * ( * 1 2 ) 3 )", "1 * 2 * 3"},
		{"( * 1 ( + 2 3 ) )", "1 * (2 + 3)"},
		{"( * 1 ( - 2 3 ) )", "1 * (2 - 3)"},
		{"( * 1 ( * 2 3 ) )", "1 * (2 * 3)"},
		{"( * ( + 1 2 ) ( - 3 ( * 4 5 ) ) )", "(1 + 2) * (3 - 4 * 5)"},
		{"( + ( + ( * 1 2 ) ( * 3 4 ) ) ( * 5 ( * 6 7 ) ) )", "1 * 2 + 3 * 4 + 5 * (6 * 7)"},
	}
	for _, c := range cases {
		x, _ := sums(strings.Fields(c.tree))
		text := "array a[4];\ns: a[0] = " + c.want + ";\n"
		same(t, c.tree, written(t, steps(set("s", x))), text)
		same(t, c.want, program(t, text), steps(set("s", x)))
	}
}

func TestTextsAreReadBack(t *testing.T) {
	g := dice(7)
	for range 400 {
		p := g.program()
		if nest.Check(p) != api.OK {
			continue
		}
		text, e := nest.Text(p)
		if e == api.ErrLarge {
			continue
		}
		same(t, "Text", e, api.OK)
		q := program(t, text)
		same(t, text, q, p)
		same(t, text, written(t, q), text)
		f := g.form("a", "b", "c_1", "c_2")
		s, _ := nest.FormText(f)
		h, at, e := nest.ReadForm(s)
		same(t, s, []any{h, at, e}, []any{f, 0, api.OK})
	}
}

// textOf is the text of a program, with so many bytes.
func textOf(bytes int) string {
	var b strings.Builder
	b.WriteString("array a[4];\n")
	long := strings.Repeat("(1 + 1) * ", 4) + "1"
	for i := 0; bytes-b.Len() > 1000; i++ {
		b.WriteString("s" + strconv.Itoa(i) + ": a[0] = " + strings.Repeat(long+" + ", 5) + "1;\n")
	}
	for i := 0; b.Len() < bytes; i++ {
		left := bytes - b.Len()
		if left > 52 {
			left = min(52, left-20)
		}
		name := "f" + strconv.Itoa(i) + "_" + strings.Repeat("x", 40)
		b.WriteString(name[:left-len(": a[0] = 1;\n")] + ": a[0] = 1;\n")
	}
	return b.String()
}

func TestTextLimits(t *testing.T) {
	text := textOf(api.MaxText)
	same(t, "bytes", len(text), api.MaxText)
	p := program(t, text)
	same(t, "most", written(t, p), text)
	q, e := nest.Renamed(p, []api.Pair{{Name: "s0", Value: "s00"}})
	same(t, "renamed", e, api.OK)
	s, e := nest.Text(q)
	same(t, "one byte more", []any{s, e}, []any{"", api.ErrLarge})
	_, at, e := nest.Read(text + "$")
	same(t, "read more", []any{at, e}, []any{0, api.ErrLarge})
}

// A text that would have many millions of bytes is not made first.
func TestTextFarTooLong(t *testing.T) {
	x := number(1)
	for range api.MaxDepth - 1 {
		x = both(api.OpAdd, x, x)
	}
	p := steps()
	for i := range api.MaxSteps {
		p.Steps = append(p.Steps, set("s"+strconv.Itoa(i), x))
	}
	s, e := nest.Text(p)
	same(t, "text", []any{s, e}, []any{"", api.ErrLarge})
}
