package affine_test

import (
	"fmt"
	"strconv"
	"strings"
	"testing"

	"warpbeam/affine"
	"warpbeam/api"
	"warpbeam/nest"
)

// same compares values as they are printed, as an empty list and a nil one are the same (Z5).
func same(t *testing.T, what string, got, want any) {
	t.Helper()
	if g, w := fmt.Sprintf("%+v", got), fmt.Sprintf("%+v", want); g != w {
		t.Errorf("%s: got %s, want %s", short(what), short(g), short(w))
	}
}

func short(s string) string {
	if len(s) > 600 {
		return s[:600] + " .."
	}
	return s
}

// form reads a form; it panics if the text is none, as no test has such a one.
func form(text string) api.Form {
	f, at, e := nest.ReadForm(text)
	if e != api.OK {
		panic(fmt.Sprint("ReadForm ", text, at, e))
	}
	return f
}

func forms(l ...string) []api.Form {
	var out []api.Form
	for _, text := range l {
		out = append(out, form(text))
	}
	return out
}

// texts are forms as they are written, also those beyond the limits.
func texts(l []api.Form) string {
	var out []string
	for _, f := range l {
		s, e := nest.FormText(f)
		if e != api.OK {
			s = fmt.Sprint(f)
		}
		out = append(out, s)
	}
	return strings.Join(out, ", ")
}

// box makes sides from a text with a name and two numbers for each: `i 0 4, j -1 3`.
func box(text string) []api.Side {
	var l []api.Side
	for part := range strings.SplitSeq(text, ",") {
		w := strings.Fields(part)
		if len(w) == 0 {
			continue
		}
		low, _ := strconv.Atoi(w[1])
		high, _ := strconv.Atoi(w[2])
		l = append(l, api.Side{Name: w[0], Low: low, High: high})
	}
	return l
}

// set makes a set of sides as box takes them, and of conditions.
func set(sides string, conds ...string) api.Set {
	return api.Set{Sides: box(sides), Conds: forms(conds...)}
}

// shown is a set as a text: sides as box takes them, then conditions.
func shown(s api.Set) string {
	var l []string
	for _, x := range s.Sides {
		l = append(l, fmt.Sprint(x.Name, " ", x.Low, " ", x.High))
	}
	return strings.Join(l, ", ") + ": " + texts(s.Conds)
}

// program reads a text that has to be right.
func program(t *testing.T, text string) api.Program {
	t.Helper()
	p, at, e := nest.Read(text)
	if e != api.OK {
		t.Fatalf("Read(%q): %d, %v", short(text), at, e)
	}
	return p
}

// points are those of a set that has no error.
func points(t *testing.T, s api.Set) [][]int {
	t.Helper()
	l, e := affine.Points(s)
	if e != api.OK {
		t.Fatalf("Points(%s): %v", shown(s), e)
	}
	return l
}

// names that are none, each for a reason of its own.
func noNames() []string {
	return []string{"", "1a", "_a", "A", "a-b", "a b", "é", "a\n", "a\x00", strings.Repeat("a", api.MaxName+1), "array", "for", "if", "max", "min"}
}

// extremes are the ints that are farthest off.
func extremes() []int {
	const most = int(^uint(0) >> 1)
	return []int{most, most - 1, -most, -most - 1}
}

// many makes so many sides v0, v1 .. with one value each.
func many(n int) []api.Side {
	var l []api.Side
	for i := range n {
		l = append(l, api.Side{Name: "v" + strconv.Itoa(i)})
	}
	return l
}

// wrong is a set that the check refuses with ErrTwice.
func wrong() api.Set { return set("i 0 1, i 0 1") }

// triangle is the domain of the chapter's example.
func triangle() api.Set { return set("i 0 4, j 0 4", "i", "4 - i", "j - i", "4 - j") }

// sided are the results of all functions with one set, as a text, each with its error.
func sided(s api.Set, x []int, f api.Form, l []api.Form, names []string, name string, by api.Form) []string {
	var out []string
	add := func(what string, l ...any) { out = append(out, what+fmt.Sprintf(" %+v", l)) }
	has, e := affine.Has(s, x)
	add("Has", has, e)
	n, e := affine.Count(s)
	add("Count", n, e)
	all, e := affine.Points(s)
	add("Points", all, e)
	p, ok, e := affine.Least(s)
	add("Least", p, ok, e)
	p, ok, e = affine.Greatest(s)
	add("Greatest", p, ok, e)
	low, high, ok, e := affine.Range(s, f)
	add("Range", low, high, ok, e)
	ok, e = affine.Implies(s, f)
	add("Implies", ok, e)
	n, e = affine.Image(s, l)
	add("Image", n, e)
	all, e = affine.Projected(s, names)
	add("Projected", all, e)
	t, e := affine.Tight(s)
	add("Tight", t, e)
	t, e = affine.Shadow(s, name)
	add("Shadow", t, e)
	t, e = affine.Mapped(s, name, by)
	add("Mapped", t, e)
	t, e = affine.Meet(s, s)
	add("Meet", t, e)
	ok, e = affine.Same(s, s)
	add("Same", ok, e)
	return out
}

// refused checks that all functions with sets return an error of the set, whatever else is wrong, and nothing else.
func refused(t *testing.T, s api.Set, want api.Errno) {
	t.Helper()
	bad := api.Form{Const: api.MaxConst + 1}
	same(t, "CheckSet "+shown(s), affine.CheckSet(s), want)
	empty := fmt.Sprint(want) + "]"
	for _, got := range sided(s, make([]int, 9), bad, make([]api.Form, 9), make([]string, 9), "", bad) {
		what, rest, _ := strings.Cut(got, " ")
		if values := strings.TrimSuffix(rest, empty); values == rest || strings.Trim(values, "[]{} 0falseSidesConds:") != "" {
			t.Errorf("%s of %s: got %s, want nothing and %v", what, shown(s), rest, want)
		}
	}
	other := api.Set{Sides: many(9)}
	m, e := affine.Meet(s, other)
	same(t, "Meet", []any{m, e}, []any{api.Set{}, want})
	m, e = affine.Meet(set("x 0 0"), s)
	same(t, "Meet", []any{m, e}, []any{api.Set{}, want})
	ok, e := affine.Same(s, other)
	same(t, "Same", []any{ok, e}, []any{false, want})
	ok, e = affine.Same(set("x 0 0"), s)
	same(t, "Same", []any{ok, e}, []any{false, want})
}
