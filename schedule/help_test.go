package schedule_test

import (
	"fmt"
	"strings"
	"testing"

	"warpbeam/api"
	"warpbeam/nest"
	"warpbeam/schedule"
)

// same compares values as they are printed, as an empty list and a nil one are the same (Z5).
func same(t *testing.T, what string, got, want any) {
	t.Helper()
	if g, w := fmt.Sprintf("%+v", got), fmt.Sprintf("%+v", want); g != w {
		t.Errorf("%s: got %s, want %s", short(what), short(g), short(w))
	}
}

func short(s string) string {
	if len(s) > 600 {
		return s[:600] + " .."
	}
	return s
}

// program reads a text that has to be right.
func program(t *testing.T, text string) api.Program {
	t.Helper()
	p, at, e := nest.Read(text)
	if e != api.OK {
		t.Fatalf("Read(%q): %d, %v", short(text), at, e)
	}
	return p
}

// form reads a form that has to be right.
func form(t *testing.T, text string) api.Form {
	t.Helper()
	f, at, e := nest.ReadForm(text)
	if e != api.OK {
		t.Fatalf("ReadForm(%q): %d, %v", short(text), at, e)
	}
	return f
}

// plans reads a schedule: `s: 0, i; t: 1, 2*i + j`.
func plans(t *testing.T, text string) []api.Plan {
	t.Helper()
	var l []api.Plan
	if text == "" {
		return nil
	}
	for part := range strings.SplitSeq(text, "; ") {
		key, times, found := strings.Cut(part, ": ")
		if !found {
			t.Fatal(text)
		}
		x := api.Plan{Key: key}
		for f := range strings.SplitSeq(times, ", ") {
			x.Times = append(x.Times, form(t, f))
		}
		l = append(l, x)
	}
	return l
}

// written is a schedule as plans reads it.
func written(l []api.Plan) string {
	var parts []string
	for _, x := range l {
		var times []string
		for _, f := range x.Times {
			s, e := nest.FormText(f)
			if e != api.OK {
				s = fmt.Sprint(f, e)
			}
			times = append(times, s)
		}
		parts = append(parts, x.Key+": "+strings.Join(times, ", "))
	}
	return strings.Join(parts, "; ")
}

// turned writes a turned pair: `s[1 2] s[2 1] a5`.
func turned(x api.Turned) string {
	return done([]api.Instance{x.From, x.To}) + fmt.Sprintf(" %s%d", x.Array, x.Cell)
}

// done writes instances: `s[1 2] t[]`.
func done(l []api.Instance) string {
	var parts []string
	for _, x := range l {
		parts = append(parts, fmt.Sprintf("%s%v", x.Key, x.Values))
	}
	return strings.Join(parts, " ")
}

// names that are none, each for a reason of its own.
func noNames() []string {
	return []string{"", "1a", "_a", "A", "a-b", "a b", "é", "a\n", "a\x00", strings.Repeat("a", api.MaxName+1), "array", "for", "if", "max", "min"}
}

// extremes are the ints that are farthest off.
func extremes() []int {
	const most = int(^uint(0) >> 1)
	return []int{most, most - 1, -most, -most - 1}
}

// example is that of the chapter.
const example = "array a[4, 4]; for i = 1 .. 3 { for j = 1 .. 3 { s: a[i, j] = a[i - 1, j] + a[i, j - 1]; } }"

// failure is a program that nest.Check takes, with the error that its run, or its number of pairs, has.
type failure struct {
	text string
	want api.Errno
}

// crowded has 500,000 pairs, and so many more.
func crowded(more int) string {
	// 1,000 instances that set one cell make 499,500 pairs, and one that sets another cell and 500 that just read it make the others.
	return fmt.Sprintf("array a[600]; for i = 0 .. 999 { s: a[0] = 1; } u: a[1] = 1; for i = 2 .. %d { v: a[i] = a[1]; }", 501+more)
}

func failures() []failure {
	return []failure{
		{"array a[4]; for i = 1000000 .. 1000000 { for j = i + 1 .. i + 1 { s: a[0] = 1; } }", api.ErrArg},
		{"array a[4]; for i = 0 .. 50000 { s: a[0] = 1; }", api.ErrFull},
		{"array a[4]; for i = 0 .. 200000 { }", api.ErrFull},
		{"array a[4]; s: a[4] = 1;", api.ErrRule},
		{"array a[4]; s: a[0] = a[-1];", api.ErrRule},
		{"array a[4]; for i = 0 .. 1000 { s: a[0] = 1; } t: a[4] = 1;", api.ErrRule},
		{"array a[4]; for i = 0 .. 49999 { s: a[0] = a[0] + a[1] + a[2] + a[3]; }", api.ErrLarge},
		{crowded(1), api.ErrFull},
		{"array a[4]; for i = 0 .. 1000 { s: a[0] = 1; }", api.ErrFull},
		{"array a[4]; for i = 0 .. 1000 { s: a[0] = a[0] + a[0]; }", api.ErrFull},
		{"array a[4]; for i = 0 .. 49999 { s: a[0] = 1; }", api.ErrFull},
	}
}

// bad are programs that nest.Check does not take, with its errors.
func bad() map[api.Errno]api.Program {
	return map[api.Errno]api.Program{
		api.ErrKind:  {Steps: []api.Step{{Kind: -1}}},
		api.ErrName:  {Arrays: []api.Array{{Key: "A"}}},
		api.ErrLarge: {Arrays: make([]api.Array, api.MaxArrays+1)},
		api.ErrRule:  {Steps: []api.Step{{Kind: api.StepIf, Conds: []api.Form{{Terms: []api.Term{{Name: "i", Coef: 1}}}}}}},
	}
}

// constant is a schedule in which all instances have the same time.
func constant(p api.Program) []api.Plan {
	names, _ := nest.Statements(p)
	var l []api.Plan
	for _, s := range names {
		l = append(l, api.Plan{Key: s, Times: make([]api.Form, 1)})
	}
	return l
}

// results are those of all functions that need instances, but Search.
func results(p api.Program, l []api.Plan) []string {
	var out []string
	add := func(name string, values ...any) { out = append(out, name+fmt.Sprintf(" %+v", values)) }
	x, is, e := schedule.Legal(p, l)
	add("Legal", x, is, e)
	order, e := schedule.Order(p, l)
	add("Order", order, e)
	parallel, e := schedule.Parallel(p, l)
	add("Parallel", parallel, e)
	many, most, e := schedule.Latency(p, l)
	add("Latency", many, most, e)
	early, many, e := schedule.Earliest(p)
	add("Earliest", early, many, e)
	return out
}

// nothing is what these functions return with an error.
func nothing(e api.Errno) []string {
	return []string{
		fmt.Sprintf("Legal %+v", []any{api.Turned{}, false, e}),
		fmt.Sprintf("Order %+v", []any{[]int{}, e}),
		fmt.Sprintf("Parallel %+v", []any{[]int{}, e}),
		fmt.Sprintf("Latency %+v", []any{0, 0, e}),
		fmt.Sprintf("Earliest %+v", []any{[]int{}, 0, e}),
	}
}
