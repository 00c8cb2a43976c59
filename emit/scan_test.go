package emit_test

import (
	"fmt"
	"strings"
	"testing"

	"warpbeam/api"
	"warpbeam/emit"
	"warpbeam/nest"
	"warpbeam/run"
	"warpbeam/schedule"
)

// scanned is what Scan makes of a program by a schedule.
func scanned(t *testing.T, text string, l ...string) string {
	t.Helper()
	return made(emit.Scan(program(t, text), plans(t, l...)))
}

const square = "array a[4, 4]; for i = 1 .. 3 { for j = 1 .. 3 { s: a[i, j] = a[i - 1, j] + a[i, j - 1] + <2*i - j>; } }"

// P7.1: the program that is made.
func TestScan(t *testing.T) {
	for _, c := range []struct {
		text, plans, want string
	}{
		// The order of the program itself.
		{square, "s: i, j", "for t0 = 1 .. 3 { for t1 = 1 .. 3 { if t0 - 1 >= 0, -t0 + 3 >= 0, t1 - 1 >= 0, -t1 + 3 >= 0 { s: a[t0, t1] = a[t0 - 1, t1] + a[t0, t1 - 1] + <2*t0 - t1>; } } }"},
		{square, "s: j, i", "for t0 = 1 .. 3 { for t1 = 1 .. 3 { if t1 - 1 >= 0, -t1 + 3 >= 0, t0 - 1 >= 0, -t0 + 3 >= 0 { s: a[t1, t0] = a[t1 - 1, t0] + a[t1, t0 - 1] + <-t0 + 2*t1>; } } }"},
		// Waves.
		{square, "s: i + j, i", "for t0 = 2 .. 6 { for t1 = 1 .. 3 { if t1 - 1 >= 0, -t1 + 3 >= 0, t0 - t1 - 1 >= 0, -t0 + t1 + 3 >= 0 { s: a[t1, t0 - t1] = a[t1 - 1, t0 - t1] + a[t1, t0 - t1 - 1] + <-t0 + 3*t1>; } } }"},
		{square, "s: 3*i + 2*j + 7, i + j - 4", "for t0 = 12 .. 22 { for t1 = -2 .. 2 { if t0 - 2*t1 - 16 >= 0, -t0 + 2*t1 + 18 >= 0, -t0 + 3*t1 + 18 >= 0, t0 - 3*t1 - 16 >= 0 { s: a[t0 - 2*t1 - 15, -t0 + 3*t1 + 19] = a[t0 - 2*t1 - 16, -t0 + 3*t1 + 19] + a[t0 - 2*t1 - 15, -t0 + 3*t1 + 18] + <3*t0 - 7*t1 - 49>; } } }"},
		// Rows that are not used are conditions, ahead of all others, and there are so many conditions that a second StepIf is needed.
		{square, "s: i + j, 2*i + 2*j - 3, i", "for t0 = 2 .. 6 { for t1 = 1 .. 9 { for t2 = 1 .. 3 { if 2*t0 - t1 - 3 >= 0, -2*t0 + t1 + 3 >= 0, t2 - 1 >= 0, -t2 + 3 >= 0, t0 - t2 - 1 >= 0, -t0 + t2 + 3 >= 0 { s: a[t2, t0 - t2] = a[t2 - 1, t0 - t2] + a[t2, t0 - t2 - 1] + <-t0 + 3*t2>; } } } }"},
		{square, "s: 0, i, 4, j, i - j", "for t0 = 0 .. 0 { for t1 = 1 .. 3 { for t2 = 4 .. 4 { for t3 = 1 .. 3 { for t4 = -2 .. 2 { if -t0 >= 0, t0 >= 0, -t2 + 4 >= 0, t2 - 4 >= 0, t1 - t3 - t4 >= 0, -t1 + t3 + t4 >= 0 { if t1 - 1 >= 0, -t1 + 3 >= 0, t3 - 1 >= 0, -t3 + 3 >= 0 { s: a[t1, t3] = a[t1 - 1, t3] + a[t1, t3 - 1] + <2*t1 - t3>; } } } } } } }"},
		// Rows that come too late, or that are sums of fractions of others.
		{"array a[9, 9]; for i = 0 .. 1 { for j = 0 .. 1 { s: a[i, j] = 1; } }", "s: i, i - 1, j, 5*i - 7*j", "for t0 = 0 .. 1 { for t1 = -1 .. 0 { for t2 = 0 .. 1 { for t3 = -7 .. 5 { if t0 - t1 - 1 >= 0, -t0 + t1 + 1 >= 0, 5*t0 - 7*t2 - t3 >= 0, -5*t0 + 7*t2 + t3 >= 0, t0 >= 0, -t0 + 1 >= 0 { if t2 >= 0, -t2 + 1 >= 0 { s: a[t0, t2] = 1; } } } } } }"},
		// Statements without loops, and one by one.
		{"array a[9]; s: a[1] = 2; t: a[2] = a[1]; u: a[0] = 1;", "s: 3; t: 4; u: -2", "for t0 = -2 .. 4 { if -t0 + 3 >= 0, t0 - 3 >= 0 { s: a[1] = 2; } if -t0 + 4 >= 0, t0 - 4 >= 0 { t: a[2] = a[1]; } if -t0 - 2 >= 0, t0 + 2 >= 0 { u: a[0] = 1; } }"},
		{"array a[9]; for i = 0 .. 3 { s: a[i] = <i>; } for k = 0 .. 4 { t: a[k] = a[k] * <k>; }", "s: i, 0; t: k + 1, 2", "for t0 = 0 .. 5 { for t1 = 0 .. 2 { if -t1 >= 0, t1 >= 0, t0 >= 0, -t0 + 3 >= 0 { s: a[t0] = <t0>; } if -t1 + 2 >= 0, t1 - 2 >= 0, t0 - 1 >= 0, -t0 + 5 >= 0 { t: a[t0 - 1] = a[t0 - 1] * <t0 - 1>; } } }"},
		// All conditions and bounds of the domain, in their order.
		{"array a[9, 99]; for i = 1 .. 6 { if 9 >= 0, i - 2 >= 0 { for j = max(i, 3, (i + 1)/2) .. min(7, (20 - i)/3) { if 20 - i - j >= 0, 0 >= 0 { s: a[i, j] = 1; } } } }", "s: j, i", "for t0 = 3 .. 6 { for t1 = 2 .. 5 { if t1 - 1 >= 0, -t1 + 6 >= 0, t1 - 2 >= 0, t0 - t1 >= 0, t0 - 3 >= 0, 2*t0 - t1 - 1 >= 0 { if -t0 + 7 >= 0, -3*t0 - t1 + 20 >= 0, -t0 - t1 + 20 >= 0 { s: a[t1, t0] = 1; } } } }"},
		{"array a[9]; if 3 >= 0 { s: a[0] = 1; }", "s: 5, 6", "for t0 = 5 .. 5 { for t1 = 6 .. 6 { if -t0 + 5 >= 0, t0 - 5 >= 0, -t1 + 6 >= 0, t1 - 6 >= 0 { s: a[0] = 1; } } }"},
		// All loops are replaced at once, also if they have the names of new ones.
		{"array a[9, 9]; for t1 = 0 .. 1 { for t0 = t1 .. 3 { s: a[t1, t0] = <t0 + 5*t1>; } }", "s: t1, t0", "for t0 = 0 .. 1 { for t1 = 0 .. 3 { if t0 >= 0, -t0 + 1 >= 0, -t0 + t1 >= 0, -t1 + 3 >= 0 { s: a[t0, t1] = <5*t0 + t1>; } } }"},
		{"array a[9, 9]; for t1 = 0 .. 1 { for t0 = t1 .. 3 { s: a[t1, t0] = <t0 + 5*t1>; } }", "s: t0, t0 + 1, t1 - t0", "for t0 = 0 .. 3 { for t1 = 1 .. 4 { for t2 = -3 .. 0 { if t0 - t1 + 1 >= 0, -t0 + t1 - 1 >= 0, t0 + t2 >= 0, -t0 - t2 + 1 >= 0, -t2 >= 0, -t0 + 3 >= 0 { s: a[t0 + t2, t0] = <6*t0 + 5*t2>; } } } }"},
		// Statements and arrays can have any other names.
		{"array t1x[9]; array t[9]; for t = 0 .. 1 { }", "", "error 6"},
		{"array t8[9]; array t[9]; for i = 0 .. 1 { t0: t8[i] = t[i]; }", "t0: i", "for t0 = 0 .. 1 { if t0 >= 0, -t0 + 1 >= 0 { t0: t8[t0] = t[t0]; } }"},
		// Without statements nothing is left.
		{"array a[9]; for i = 0 .. 9 { }", "", ""},
		{"", "", ""},
	} {
		p, _, e := nest.Read(c.text)
		if e != api.OK {
			same(t, c.text, fmt.Sprint("error ", int(e)), c.want)
			continue
		}
		var l []api.Plan
		if c.plans != "" {
			l = plans(t, strings.Split(c.plans, "; ")...)
		}
		q, e := emit.Scan(p, l)
		same(t, c.text+c.plans, made(q, e), c.want)
		same(t, c.text, q.Arrays, p.Arrays)
		in := dice(8).any(p)
		_, found, e := run.Differ(p, q, [][]api.Grid{nil, in})
		same(t, c.text+c.plans, []any{found, e}, []any{false, api.OK})
	}
}

// P7.1: errors, ahead of those that could come behind.
func TestErrorsOfScan(t *testing.T) {
	for _, c := range []struct {
		text, plans string
		want        api.Errno
	}{
		// Those of schedule.Check.
		{square, "", api.ErrForm},
		{square, "s: i; s: j", api.ErrForm},
		{square, "t: i", api.ErrNone},
		{square, "S: i", api.ErrName},
		{square, "s: 1, 2, 3, 4, 5, 6, 7, 8, 9", api.ErrLarge},
		{square, "s: k", api.ErrRule},
		{square + " t: a[0, 0] = 1;", "s: i, j; t: 1", api.ErrForm},
		{"array t0[9]; s: t0[0] = 1;", "t: 1", api.ErrNone},
		// Arrays with names of loops.
		{"array t0[9]; for i = 0 .. 3 { s: t0[i] = 1; }", "s: 2*i", api.ErrName},
		{"array a[9]; array t2[9]; for i = 0 .. 3 { s: a[i] = 1; }", "s: 2*i, i, 0", api.ErrName},
		{"array a[9]; array t7[9]; for i = 0 .. 3 { s: a[i] = 1; }", "s: i, 0, 0, 0, 0, 0, 0, 0", api.ErrName},
		// No solution.
		{square, "s: 0, 0", api.ErrState},
		{square, "s: i", api.ErrState},
		{square, "s: i, 2*i, -i", api.ErrState},
		{square, "s: i, 2*j", api.ErrState},
		{square, "s: 2*i, i, j", api.ErrState},
		{square, "s: i + j, i - j, i, j", api.ErrState},
		{square, "s: -i, -j, i", api.ErrRule},
		{"array a[9]; for i = 0 .. 3 { s: a[i] = 1; }", "s: 3*i", api.ErrState},
		{"array a[9]; for i = 0 .. 3 { s: a[i] = 1; }", "s: 5", api.ErrState},
		// Domains.
		{"array a[9]; for i = 0 .. 2000 { if 5 - i >= 0 { for j = 1000*i .. 1000*i { s: a[i] = 1; } } }", "s: -i, j", api.ErrArg},
		{"array a[9]; for i = 0 .. 500 { if 5 - i >= 0 { for j = 0 .. 500 { s: a[i] = 1; } } }", "s: -i, j", api.ErrFull},
		// Each statement goes through all of these.
		{"array a[9]; for i = 0 .. 2000 { if 5 - i >= 0 { for j = 1000*i .. 1000*i { s: a[i] = 1; } } } for i = 0 .. 3 { t: a[i] = 1; }", "s: i, j; t: 2*i, 0", api.ErrArg},
		{"array a[9]; for i = 0 .. 3 { t: a[i] = 1; } for i = 0 .. 2000 { if 5 - i >= 0 { for j = 1000*i .. 1000*i { s: a[i] = 1; } } }", "t: 2*i, 0; s: i, j", api.ErrState},
		// Forms that are beyond their limits.
		{"array a[9]; for i = 0 .. 3 { s: a[i] = 1; }", "s: -i - 1000000", api.ErrArg},
		{"array a[9]; for i = 0 .. 3 { for j = 0 .. 3 { for k = 0 .. 3 { s: a[0] = 1; } } }", "s: -i, 1000*i + j, 2*j + k", api.ErrArg},
		{"array a[9]; for i = 0 .. 3 { for j = 0 .. 3 { s: a[0] = 1; } }", "s: -i + 2000, 1000*i + j", api.ErrArg},
		// What is not legal, or cannot be done at all.
		{square, "s: -i, j", api.ErrRule},
		{square, "s: i - j, j", api.ErrRule},
		{"array a[9]; s: a[0] = 1; t: a[0] = 2; for i = 1 .. 0 { u: a[0] = 1; }", "s: 1, 0; t: 1, 0; u: i, 0", api.ErrRule},
		{"array a[9]; for i = 0 .. 9 { s: a[i] = 1; } for i = 1 .. 0 { u: a[0] = 1; }", "s: i; u: i", api.ErrRule},
		{"array a[9]; for i = 0 .. 999 { s: a[0] = 1; t: a[0] = 1; }", "s: i, 0; t: i, 1", api.ErrFull},
		{"array a[9]; s: a[0] = 1; for i = 0 .. 200000 { }", "s: 0", api.ErrFull},
		{"array a[9]; s: a[0] = 1; for i = 1000000 .. 1000000 { for j = i + 1 .. i + 1 { } }", "s: 0", api.ErrArg},
		{"array a[9]; for i = 0 .. 49999 { s: a[0] = a[0] + a[1] + a[2] + a[3]; }", "s: i", api.ErrLarge},
		// Statements without instances.
		{"array a[9]; for i = 1 .. 0 { s: a[0] = 1; }", "s: i", api.ErrNone},
		{"array a[9]; for i = 0 .. 3 { s: a[i] = 1; if -1 >= 0 { u: a[i] = 1; } }", "s: 1000*i, i; u: i, i", api.ErrState},
		{"array a[9]; for i = 0 .. 3 { s: a[i] = 1; if -1 >= 0 { u: a[i] = 1; } }", "s: i, 1000*i; u: i, i", api.ErrNone},
		{"array a[9]; s: a[0] = 1; t: a[1] = 1; if -1 >= 0 { u: a[0] = 1; }", "s: -1000000; t: 1000000; u: 1", api.ErrNone},
		// Too many rounds.
		{"array a[9]; s: a[0] = 1; t: a[1] = 1;", "s: 0; t: 50000", api.ErrFull},
		{"array a[9]; s: a[0] = 1; t: a[1] = 1;", "s: 0, 0; t: 249, 200", api.ErrFull},
		{"array a[9]; s: a[0] = 1; t: a[1] = 1;", "s: -1000000, -1000000, -1000000, -1000000; t: 1000000, 1000000, 1000000, 1000000", api.ErrFull},
		{"array a[9]; s: a[0] = 1; t: a[1] = 1;", "s: 0, 0, 0, 0, 0, 0, 0, 0; t: 4095, 4095, 4095, 4095, 4095, 4095, 0, 0", api.ErrFull},
		// Loops whose values are no constants.
		{"array a[9]; for i = 999 .. 1000 { for j = 999 .. 1000 { s: a[0] = a[0] + 1; } }", "s: i, 1000*i + j", api.ErrArg},
		{"array a[9]; for i = 1000 .. 1001 { s: a[i - 1000] = 1; }", "s: i, 1000*i", api.ErrArg},
		{"array a[9]; for i = 1000 .. 1001 { s: a[i - 1000] = 1; }", "s: i, 999*i", api.OK},
	} {
		var l []api.Plan
		if c.plans != "" {
			for _, text := range strings.Split(c.plans, "; ") {
				l = append(l, plans(t, text)...)
			}
		}
		q, e := emit.Scan(program(t, c.text), l)
		same(t, c.text+c.plans, e, c.want)
		if e != api.OK {
			same(t, c.text, q, api.Program{})
		}
	}
	for _, x := range wrongs() {
		same(t, "program", made(emit.Scan(x.program, nil)), fmt.Sprint("error ", int(x.want)))
	}
	for i, x := range failures(t) {
		l, e := schedule.Original(x.program)
		same(t, fmt.Sprint(i), e, api.OK)
		same(t, fmt.Sprint(i), made(emit.Scan(x.program, l)), fmt.Sprint("error ", int(x.want)))
	}
}

// P7.1: as many rounds as there can be.
func TestManyRounds(t *testing.T) {
	text := "array a[9]; s: a[0] = 1; t: a[1] = 1;"
	same(t, "50000", scanned(t, text, "s: 0", "t: 49999"), "for t0 = 0 .. 49999 { if -t0 >= 0, t0 >= 0 { s: a[0] = 1; } if -t0 + 49999 >= 0, t0 - 49999 >= 0 { t: a[1] = 1; } }")
	same(t, "250 by 200", scanned(t, text, "s: 0, 0", "t: -249, 199"), "for t0 = -249 .. 0 { for t1 = 0 .. 199 { if -t0 >= 0, t0 >= 0, -t1 >= 0, t1 >= 0 { s: a[0] = 1; } if -t0 - 249 >= 0, t0 + 249 >= 0, -t1 + 199 >= 0, t1 - 199 >= 0 { t: a[1] = 1; } } }")
}

// P7.1: the check of what is made.
func TestScannedProgramsAreChecked(t *testing.T) {
	// A loop, and for each statement a StepIf and itself.
	some := func(many int) (api.Program, []api.Plan) {
		p := program(t, "array a[9];")
		var l []api.Plan
		for i := range many {
			name := fmt.Sprint("s", i)
			p.Steps = append(p.Steps, program(t, "array a[9]; "+name+": a[0] = 1;").Steps...)
			l = append(l, api.Plan{Key: name, Times: []api.Form{{Const: i}}})
		}
		return p, l
	}
	for _, c := range []struct {
		many int
		want api.Errno
	}{{149, api.OK}, {150, api.ErrLarge}} {
		q, e := emit.Scan(some(c.many))
		same(t, "steps", []any{len(q.Steps) == 1, e}, []any{c.want == api.OK, c.want})
	}
	// Eight loops, as many StepIfs as are needed for the conditions, and the statement.
	for _, c := range []struct {
		conds string
		want  api.Errno
	}{{"0 >= 0", api.OK}, {"i >= 0, i >= 0", api.OK}, {"i >= 0, 1 >= 0, i >= 0", api.OK}, {"i >= 0, i >= 0, i >= 0", api.ErrLarge}} {
		p := program(t, "array a[9]; if 1 >= 0 { for i = 0 .. 3 { if "+c.conds+" { s: a[i] = 1; } } }")
		_, e := emit.Scan(p, plans(t, "s: i, 0, 0, 0, 0, 0, 0, 0"))
		// 14 and 2 conditions, and what is added: 18 fill three StepIfs.
		same(t, c.conds, e, c.want)
	}
}
