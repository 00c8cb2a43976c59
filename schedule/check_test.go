package schedule_test

import (
	"fmt"
	"strings"
	"testing"

	"warpbeam/api"
	"warpbeam/schedule"
)

// two has statements with different loops around them.
const two = "array a[99]; for i = 0 .. 3 { s: a[i] = 1; if i - 1 >= 0 { for j = 0 .. i { t: a[i + j] = 2; } } } u: a[0] = 3;"

// times are so many forms.
func times(many int) []api.Form { return make([]api.Form, many) }

// P5.1: schedules that are right.
func TestCheckTakes(t *testing.T) {
	p := program(t, two)
	for _, s := range []string{
		"s: 0; t: 0; u: 0",
		"s: i; t: i + j; u: 7",
		"s: -1000*i - 1000000; t: 1000*i - 1000*j + 1000000; u: 0",
		"s: 0, i, 0; t: 1, j, i; u: 2, 0, 0",
		"s: 0, 0, 0, 0, 0, 0, 0, i; t: 0, 0, 0, 0, 0, 0, 0, i; u: 0, 0, 0, 0, 0, 0, 0, 0",
	} {
		same(t, s, schedule.Check(p, plans(t, s)), api.OK)
	}
	same(t, "nothing", schedule.Check(api.Program{}, nil), api.OK)
	same(t, "nothing", schedule.Check(program(t, "array a[1]; for i = 0 .. 1 { }"), []api.Plan{}), api.OK)
}

// P5.1: schedules that are wrong, with all that comes later wrong, too.
func TestCheckErrors(t *testing.T) {
	p := program(t, two)
	s, u := plans(t, "s: i, 0; t: j, i; u: 0, 0"), plans(t, "u: 0, 0")
	one := func(key string, l ...api.Form) []api.Plan {
		return []api.Plan{{Key: key, Times: l}, {Key: "!"}, {Key: "!"}}
	}
	second := func(x api.Plan) []api.Plan { return []api.Plan{s[0], x, {Key: "!"}} }
	wrong := api.Form{Const: api.MaxConst + 1}
	for i, c := range []struct {
		plans []api.Plan
		want  api.Errno
	}{
		{nil, api.ErrForm},
		{s[:2], api.ErrForm},
		{append(one("!"), api.Plan{}), api.ErrForm},
		{one("!"), api.ErrName},
		{one("max"), api.ErrName},
		{one("i"), api.ErrNone},
		{one("t"), api.ErrNone},
		{one("zzz"), api.ErrNone},
		{one("a"), api.ErrNone},
		{one("s"), api.ErrLarge},
		{one("s", append(times(api.MaxTimes), wrong)...), api.ErrLarge},
		{one("s", wrong), api.ErrArg},
		{one("s", api.Form{}, wrong), api.ErrArg},
		{one("s", api.Form{Terms: make([]api.Term, api.MaxTerms+1)}), api.ErrLarge},
		{one("s", api.Form{Terms: []api.Term{{Name: "!", Coef: 0}}}), api.ErrName},
		{one("s", api.Form{Terms: []api.Term{{Name: "j", Coef: 0}}}), api.ErrArg},
		{one("s", api.Form{Terms: []api.Term{{Name: "j", Coef: 1}, {Name: "i", Coef: 1}}}), api.ErrOrder},
		// For each form its own error comes before the rule, but all of one form before those of the next one.
		{one("s", form(t, "i + j"), wrong), api.ErrRule},
		{one("s", form(t, "i"), form(t, "j"), wrong), api.ErrRule},
		{one("s", form(t, "k")), api.ErrRule},
		{one("s", form(t, "s")), api.ErrRule},
		{one("s", form(t, "a")), api.ErrRule},
		{one("s", wrong, form(t, "j")), api.ErrArg},
		// The second plan.
		{second(api.Plan{Key: "!"}), api.ErrName},
		{second(api.Plan{Key: "s"}), api.ErrNone},
		{second(api.Plan{Key: "t"}), api.ErrLarge},
		{second(api.Plan{Key: "t", Times: times(api.MaxTimes + 1)}), api.ErrLarge},
		{second(api.Plan{Key: "t", Times: []api.Form{wrong}}), api.ErrForm},
		{second(api.Plan{Key: "t", Times: []api.Form{wrong, wrong, wrong}}), api.ErrForm},
		{second(api.Plan{Key: "t", Times: []api.Form{{}, wrong}}), api.ErrArg},
		{second(s[1]), api.ErrName},
		{[]api.Plan{s[1], s[0], u[0]}, api.ErrNone},
		{[]api.Plan{s[0], s[1], {Key: "u", Times: []api.Form{{}, form(t, "i")}}}, api.ErrRule},
		{[]api.Plan{s[0], s[1], {Key: "u", Times: []api.Form{{}, form(t, "j")}}}, api.ErrRule},
	} {
		what := fmt.Sprint(i, c.plans)
		same(t, what, schedule.Check(p, c.plans), c.want)
		same(t, what, results(p, c.plans)[:4], nothing(c.want)[:4])
		x, e := schedule.Time(p, c.plans, api.Instance{Key: "!"})
		same(t, what, []any{x, e}, []any{[]int{}, c.want})
	}
	for _, key := range noNames() {
		same(t, key, schedule.Check(p, one(key)), api.ErrName)
	}
}

// P5.1: the program's error comes first of all.
func TestErrorsOfPrograms(t *testing.T) {
	for want, p := range bad() {
		l := []api.Plan{{Key: "!"}}
		same(t, "Check", schedule.Check(p, l), want)
		same(t, "results", results(p, l), nothing(want))
		x, e := schedule.Time(p, l, api.Instance{Key: "!"})
		same(t, "Time", []any{x, e}, []any{[]int{}, want})
		o, e := schedule.Original(p)
		same(t, "Original", []any{o, e}, []any{[]int{}, want})
		b, n, is, e := schedule.Search(p, 9)
		same(t, "Search", []any{b, n, is, e}, []any{[]int{}, 0, false, want})
		m, e := schedule.Mapped(p, "!", nil)
		same(t, "Mapped", []any{m, e}, []any{api.Plan{}, want})
	}
}

// P5.1: the time of an instance, of one that no run does, too.
func TestTime(t *testing.T) {
	p := program(t, two)
	l := plans(t, "s: i, 3, -2*i + 1; t: 2*i - j, j, 1000*i + 1000*j - 1000000; u: 4, 5, -6")
	for _, c := range []struct {
		key    string
		values []int
		want   []int
	}{
		{"s", []int{0}, []int{0, 3, 1}},
		{"s", []int{5}, []int{5, 3, -9}},
		{"s", []int{-1_000_000}, []int{-1_000_000, 3, 2_000_001}},
		{"t", []int{2, 3}, []int{1, 3, -995_000}},
		{"t", []int{3, 2}, []int{4, 2, -995_000}},
		{"t", []int{1_000_000, 1_000_000}, []int{1_000_000, 1_000_000, 1_999_000_000}},
		{"t", []int{-1_000_000, -1_000_000}, []int{-1_000_000, -1_000_000, -2_001_000_000}},
		{"u", nil, []int{4, 5, -6}},
		{"u", []int{}, []int{4, 5, -6}},
	} {
		x, e := schedule.Time(p, l, api.Instance{Key: c.key, Values: c.values})
		same(t, fmt.Sprint(c.key, c.values), []any{x, e}, []any{c.want, api.OK})
	}
	// What a run would say is not asked.
	q := program(t, "array a[1]; for j = 0 .. 900000 { for i = j .. j { s: a[7] = 1; } }")
	x, e := schedule.Time(q, plans(t, "s: 3*i - j"), api.Instance{Key: "s", Values: []int{5, 1}})
	same(t, "no run", []any{x, e}, []any{[]int{-2}, api.OK})
}

func TestErrorsOfTime(t *testing.T) {
	p := program(t, two)
	l := plans(t, "s: i; t: 2*i - j; u: 4")
	far := []int{api.MaxConst + 1}
	type test struct {
		key    string
		values []int
		want   api.Errno
	}
	tests := []test{
		{"i", nil, api.ErrNone},
		{"a", far, api.ErrNone},
		{"v", []int{0}, api.ErrNone},
		{"s", nil, api.ErrForm},
		{"s", append(far, 0), api.ErrForm},
		{"t", far, api.ErrForm},
		{"t", []int{0, 0, 0}, api.ErrForm},
		{"u", far, api.ErrForm},
		{"s", far, api.ErrArg},
		{"s", []int{-api.MaxConst - 1}, api.ErrArg},
		{"t", []int{0, api.MaxConst + 1}, api.ErrArg},
	}
	for _, key := range noNames() {
		tests = append(tests, test{key, far, api.ErrName})
	}
	for _, n := range extremes() {
		tests = append(tests, test{"s", []int{n}, api.ErrArg}, test{"t", []int{n, 0}, api.ErrArg}, test{"t", []int{0, n}, api.ErrArg})
	}
	for _, c := range tests {
		x, e := schedule.Time(p, l, api.Instance{Key: c.key, Values: c.values})
		same(t, fmt.Sprint(c), []any{x, e}, []any{[]int{}, c.want})
	}
}

// P5.1: the schedule with the order of the program.
func TestOriginal(t *testing.T) {
	for _, c := range []struct{ text, want string }{
		{"", ""},
		{"for i = 0 .. 1 { for j = 0 .. 1 { } }", ""},
		{"s: a[0] = 1;", "s: 0"},
		{"t: a[0] = 1; s: a[0] = 1;", "t: 0; s: 1"},
		{"for i = 0 .. 1 { s: a[0] = 1; }", "s: 0, i, 0"},
		{"for j = 0 .. 1 { for i = 0 .. 1 { s: a[0] = 1; } }", "s: 0, j, 0, i, 0"},
		// What has fewer loops around it has zeros.
		{"for i = 0 .. 1 { for j = 0 .. 1 { s: a[0] = 1; } t: a[0] = 1; } u: a[0] = 1;", "s: 0, i, 0, j, 0; t: 0, i, 1, 0, 0; u: 1, 0, 0, 0, 0"},
		// Loops without statements count as steps, but not their depth.
		{"for i = 0 .. 1 { for j = 0 .. 1 { } s: a[0] = 1; } for i = 0 .. 1 { } t: a[0] = 1;", "s: 0, i, 1; t: 2, 0, 0"},
		// Steps in a condition count as if they stood in its place.
		{"if 0 >= 0 { s: a[0] = 1; t: a[0] = 1; } u: a[0] = 1;", "s: 0; t: 1; u: 2"},
		{"if 0 >= 0 { } u: a[0] = 1;", "u: 0"},
		{"u: a[0] = 1; if 0 >= 0 { if 0 >= 0 { r: a[0] = 1; } if 0 >= 0 { s: a[0] = 1; if 0 >= 0 { } t: a[0] = 1; } } v: a[0] = 1;", "u: 0; r: 1; s: 2; t: 3; v: 4"},
		{"for i = 0 .. 1 { if 0 >= 0 { r: a[0] = 1; for j = 0 .. 1 { if 0 >= 0 { s: a[0] = 1; t: a[0] = 1; } u: a[0] = 1; } } if 0 >= 0 { v: a[0] = 1; } w: a[0] = 1; }", "r: 0, i, 0, 0, 0; s: 0, i, 1, j, 0; t: 0, i, 1, j, 1; u: 0, i, 1, j, 2; v: 0, i, 2, 0, 0; w: 0, i, 3, 0, 0"},
		{"r: a[0] = 1; for i = 0 .. 1 { for j = 0 .. 1 { } for j = 0 .. 1 { for k = 0 .. 1 { s: a[0] = 1; t: a[0] = 1; } } } for l = 0 .. 1 { u: a[0] = 1; }", "r: 0, 0, 0, 0, 0, 0, 0; s: 1, i, 1, j, 0, k, 0; t: 1, i, 1, j, 0, k, 1; u: 2, l, 0, 0, 0, 0, 0"},
		// Nothing is run.
		{"for i = 0 .. 900000 { s: a[i] = 1; }", "s: 0, i, 0"},
		{"for i = 0 .. 1 { for j = 0 .. 1 { for k = 0 .. 1 { s: a[0] = 1; for l = 0 .. 1 { } } } }", "s: 0, i, 0, j, 0, k, 0"},
	} {
		l, e := schedule.Original(program(t, "array a[9]; "+c.text))
		same(t, c.text, []any{written(l), e}, []any{c.want, api.OK})
	}
}

// P5.1: more Times than there can be.
func TestOriginalOfDeepLoops(t *testing.T) {
	for depth, want := range []api.Errno{api.OK, api.OK, api.OK, api.OK, api.ErrLarge, api.ErrLarge} {
		text := "array a[9]; t: a[0] = 1; "
		for i := range depth {
			text += "for i" + fmt.Sprint(i) + " = 0 .. 1 { "
		}
		text += "s: a[0] = 1; " + strings.Repeat("}", depth) + " u: a[0] = 1;"
		p := program(t, text)
		l, e := schedule.Original(p)
		many := 3
		if want != api.OK {
			many = 0
		}
		same(t, text, []any{len(l), e}, []any{many, want})
		if e == api.OK {
			same(t, text, []any{len(l[0].Times), schedule.Check(p, l)}, []any{2*depth + 1, api.OK})
		}
	}
}

// P5.1: statements in loops next to each other have just their own ones around them, however deep they are.
func TestLoopsNextToEachOther(t *testing.T) {
	around, behind := "", ""
	for depth := range 6 {
		x, y := fmt.Sprint("x", depth), fmt.Sprint("y", depth)
		text := "array a[1]; " + around + "for " + x + " = 0 .. 1 { s: a[0] = 1; } for " + y + " = 0 .. 1 { t: a[0] = 1; }" + behind
		p := program(t, text)
		same(t, text, schedule.Check(p, plans(t, "s: "+x+"; t: "+y)), api.OK)
		same(t, text, schedule.Check(p, plans(t, "s: "+y+"; t: "+y)), api.ErrRule)
		same(t, text, schedule.Check(p, plans(t, "s: "+x+"; t: "+x)), api.ErrRule)
		around, behind = around+fmt.Sprintf("for z%d = 0 .. 1 { ", depth), behind+" }"
	}
}
