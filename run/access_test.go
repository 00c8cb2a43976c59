package run_test

import (
	"fmt"
	"strings"
	"testing"

	"warpbeam/api"
	"warpbeam/run"
)

// used writes accesses: those of an instance behind its number, `=` ahead of what it sets.
func used(l []api.Access) string {
	var b strings.Builder
	for i, x := range l {
		if i == 0 || x.Instance != l[i-1].Instance {
			fmt.Fprintf(&b, "%d:", x.Instance)
		}
		mark := " "
		if x.Sets {
			mark = " ="
		}
		fmt.Fprintf(&b, "%s%s%d", mark, x.Array, x.Cell)
		if x.Sets {
			b.WriteString("; ")
		}
	}
	return b.String()
}

func TestAccesses(t *testing.T) {
	const arrays = "array b[3, 4]; array a[9]; array c[2, 3, 2, 5]; "
	for _, c := range []struct{ text, want string }{
		{"", ""},
		{"s: a[0] = 1;", "0: =a0; "},
		{"s: a[8] = <5> - 7;", "0: =a8; "},
		{"s: a[8] = a[8];", "0: a8 =a8; "},
		{"s: a[1] = a[2] + a[2];", "0: a2 a2 =a1; "},
		{"s: a[1] = a[4] - (a[3] + a[2]) * 5 * (b[0, 0] - <9>);", "0: a4 a3 a2 b0 =a1; "},
		{"s: a[1] = a[4] * a[3] + a[2] * a[1];", "0: a4 a3 a2 a1 =a1; "},
		{"s: a[1] = a[4] * (a[3] + (a[2] - a[1]));", "0: a4 a3 a2 a1 =a1; "},
		{"s: b[0, 0] = b[0, 3]; t: b[1, 0] = b[2, 3];", "0: b3 =b0; 1: b11 =b4; "},
		{"s: c[0, 0, 0, 0] = c[1, 2, 1, 4]; t: c[1, 0, 0, 0] = c[0, 1, 0, 0]; u: c[0, 0, 1, 0] = c[0, 0, 0, 1];", "0: c59 =c0; 1: c10 =c30; 2: c1 =c5; "},
		{"for i = 1 .. 2 { for j = 2*i .. 5 - i { s: b[i, j - 1] = a[i + j] * c[i - 1, 0, 2 - i, j]; } t: a[8 - i] = b[3 - i, -i + 3]; }",
			"0: a3 c7 =b5; 1: a4 c8 =b6; 2: a5 c9 =b7; 3: b10 =a7; 4: b5 =a6; "},
		{"for i = 0 .. 9 { if i - 1 >= 0, 8 - i >= 0 { if 2 - i >= 0 { s: a[i] = a[i - 1]; } } }", "0: a0 =a1; 1: a1 =a2; "},
	} {
		l, e := run.Accesses(program(t, arrays+c.text))
		same(t, c.text, []any{used(l), e}, []any{c.want, api.OK})
	}
	l, e := run.Accesses(program(t, example))
	same(t, "example", []any{used(l), e}, []any{"0: a0 =a1; 1: a1 =a2; 2: a2 =a3; ", api.OK})
	same(t, "first", l[0], api.Access{Instance: 0, Sets: false, Array: "a", Cell: 0})
}

// reads is an expression that reads a cell so many times.
func reads(many int, cell string) string {
	if many == 1 {
		return cell
	}
	return "(" + reads(many/2, cell) + " + " + reads(many-many/2, cell) + ")"
}

func TestErrorsOfAccesses(t *testing.T) {
	const full = "for i = 1 .. 50000 { s: a[i - i] = a[1] + a[2] + a[3]; } "
	for _, c := range []struct {
		text string
		want api.Errno
	}{
		{"s: a[4] = 1;", api.ErrRule},
		{"s: a[-1] = 1;", api.ErrRule},
		{"s: a[0] = a[4];", api.ErrRule},
		{"s: a[0] = a[-1];", api.ErrRule},
		{"s: a[0] = 1 + 2 * (3 - a[4]);", api.ErrRule},
		{"s: b[0, 3] = 1;", api.ErrRule},
		{"s: b[1, -1] = 1;", api.ErrRule},
		{"s: b[2, 0] = 1;", api.ErrRule},
		{"s: b[-1, 5] = 1;", api.ErrRule},
		{"s: b[0, 2] = b[1, 2];", api.OK},
		{"for i = 0 .. 3 { s: a[i] = a[3 - i]; }", api.OK},
		{"for i = 0 .. 4 { s: a[i] = 1; }", api.ErrRule},
		{"for i = 0 .. 3 { s: a[i] = a[i - 1]; }", api.ErrRule},
		{"for i = 9 .. 3 { s: a[i] = 1; } if -1 >= 0 { t: a[9] = 1; }", api.OK},
		{"for i = 0 .. 9 { if 3 - i >= 0 { s: a[i] = 1; } }", api.OK},
		{"for i = 1000000 .. 1000000 { s: a[1000*i + 1000000] = 1; }", api.ErrRule},
		{"for i = 1000000 .. 1000000 { s: a[-1000*i] = 1; }", api.ErrRule},
		// So many accesses.
		{full, api.OK},
		{"for i = 1 .. 40000 { s: a[0] = a[1] + a[2] + a[3] + a[i - i]; } ", api.OK},
		{"for i = 1 .. 40000 { s: a[0] = a[1] + a[2] + a[3] + a[i - i]; } t: a[0] = 1;", api.ErrLarge},
		{"for i = 1 .. 49999 { s: a[0] = a[1] + a[2] + a[3]; } t: a[0] = a[1] + a[2] + a[3];", api.OK},
		{"for i = 1 .. 49999 { s: a[0] = a[1] + a[2] + a[3]; } t: a[0] = a[1] + a[2] + a[3] + a[0];", api.ErrLarge},
		{"for i = 1 .. 50000 { s: a[0] = " + reads(1000, "a[i - i]") + "; }", api.ErrLarge},
		// Those of runs go first, then indices outside, and too many at last, wherever they are.
		{"s: a[4] = 1; " + tooFar(), api.ErrArg},
		{"s: a[4] = 1; for i = 1 .. 200001 { }", api.ErrFull},
		{"z: a[4] = 1; " + full + "t: a[0] = 1;", api.ErrFull},
		{"for i = 1 .. 49999 { s: a[0] = a[1] + a[2] + a[3] + a[0]; } t: a[4] = 1;", api.ErrRule},
		{"for i = 1 .. 50000 { s: a[0] = a[1] + a[2] + a[3] + a[i - 49997]; }", api.ErrRule},
		{"for i = 1 .. 2000 { s: a[0] = " + reads(99, "a[0]") + " + a[0]; } t: a[0] = a[1] + a[9];", api.ErrRule},
	} {
		p := program(t, "array a[4]; array b[2, 3]; "+c.text)
		l, e := run.Accesses(p)
		same(t, c.text, e, c.want)
		if c.want != api.OK {
			same(t, c.text, len(l), 0)
		}
	}
	l, _ := run.Accesses(program(t, "array a[4]; "+full))
	same(t, "most", []any{len(l), l[199_996:]}, []any{200_000, []api.Access{
		{Instance: 49_999, Array: "a", Cell: 1}, {Instance: 49_999, Array: "a", Cell: 2}, {Instance: 49_999, Array: "a", Cell: 3}, {Instance: 49_999, Sets: true, Array: "a", Cell: 0}}})
}
