package schedule_test

import (
	"fmt"
	"slices"
	"strings"
	"testing"

	"warpbeam/api"
	"warpbeam/schedule"
)

// square is a matrix with the numbers of a text: `1 2, 3 4`.
func square(t *testing.T, text string) [][]int {
	t.Helper()
	var m [][]int
	for part := range strings.SplitSeq(text, ", ") {
		var l []int
		for s := range strings.FieldsSeq(part) {
			var n int
			if _, e := fmt.Sscan(s, &n); e != nil {
				t.Fatal(text, e)
			}
			l = append(l, n)
		}
		m = append(m, l)
	}
	return m
}

// P5.4: determinants, also the greatest ones.
func TestDeterminant(t *testing.T) {
	for _, c := range []struct {
		matrix string
		want   int
	}{
		{"7", 7},
		{"-1000", -1000},
		{"0", 0},
		{"1 1, 0 1", 1},
		{"0 1, 1 0", -1},
		{"3 8, 4 6", -14},
		{"2 4, 1 2", 0},
		{"6 1 1, 4 -2 5, 2 8 7", -306},
		{"0 0 1, 1 0 0, 0 1 0", 1},
		{"0 1 0, 1 0 0, 0 0 1", -1},
		{"1 2 3, 4 5 6, 7 8 9", 0},
		{"1 0 0 0, 0 1 0 0, 0 0 0 1, 0 0 1 0", -1},
		{"0 0 0 2, 0 0 3 0, 0 5 0 0, 7 0 0 0", 210},
		{"4 3 2 2, 0 1 -3 3, 0 -1 3 3, 0 3 1 1", -240},
		{"0 0 0 0 1, 0 0 0 1 0, 0 0 1 0 0, 0 1 0 0 0, 1 0 0 0 0", 1},
		{"-1000 1000 1000 1000 1000, 1000 -1000 1000 1000 1000, 1000 1000 -1000 1000 1000, 1000 1000 1000 -1000 1000, 1000 1000 1000 1000 -1000", 48_000_000_000_000_000},
		{"1000 -1000 1000 1000 1000, -1000 1000 1000 1000 1000, 1000 1000 -1000 1000 1000, 1000 1000 1000 -1000 1000, 1000 1000 1000 1000 -1000", -48_000_000_000_000_000},
	} {
		n, e := schedule.Determinant(square(t, c.matrix))
		same(t, c.matrix, []any{n, e}, []any{c.want, api.OK})
	}
}

// P5.4: inverses of matrices whose determinant is 1 or -1.
func TestInverse(t *testing.T) {
	for _, c := range []struct {
		matrix, inverse string
		want            api.Errno
	}{
		{"1", "1", api.OK},
		{"-1", "-1", api.OK},
		{"1 1, 0 1", "1 -1, 0 1", api.OK},
		{"0 1, 1 0", "0 1, 1 0", api.OK},
		{"0 1, -1 0", "0 -1, 1 0", api.OK},
		{"2 1, 1 1", "1 -1, -1 2", api.OK},
		{"1 2, 1 1", "-1 2, 1 -1", api.OK},
		{"0 1 0, 0 0 1, 1 0 0", "0 0 1, 1 0 0, 0 1 0", api.OK},
		{"1 2 3, 0 1 4, 0 0 -1", "1 -2 -5, 0 1 4, 0 0 -1", api.OK},
		{"1 1000, 0 1", "1 -1000, 0 1", api.OK},
		{"1 -1000, 0 1", "1 1000, 0 1", api.OK},
		{"1 100 0, 0 1 10, 0 0 1", "1 -100 1000, 0 1 -10, 0 0 1", api.OK},
		{"1 100 -1, 0 1 10, 0 0 1", "", api.ErrArg},
		{"1 100 1, 0 1 -10, 0 0 1", "", api.ErrArg},
		{"1 1000 0 0 0, 0 1 1000 0 0, 0 0 1 1000 0, 0 0 0 1 1000, 0 0 0 0 1", "", api.ErrArg},
		{"0", "", api.ErrState},
		{"2", "", api.ErrState},
		{"-1000", "", api.ErrState},
		{"2 0, 0 1", "", api.ErrState},
		{"1 1, 1 1", "", api.ErrState},
		{"1 1, 1 -1", "", api.ErrState},
		{"1000 0, 0 1000", "", api.ErrState},
	} {
		m, e := schedule.Inverse(square(t, c.matrix))
		var want [][]int
		if c.inverse != "" {
			want = square(t, c.inverse)
		}
		same(t, c.matrix, []any{m, e}, []any{want, c.want})
	}
}

// badMatrix is a matrix with the error that it has.
type badMatrix struct {
	matrix [][]int
	want   api.Errno
}

func badMatrices() []badMatrix {
	l := []badMatrix{
		{nil, api.ErrForm},
		{[][]int{}, api.ErrForm},
		{[][]int{nil}, api.ErrForm},
		{[][]int{{1, 2}}, api.ErrForm},
		{[][]int{{1}, {2}}, api.ErrForm},
		{[][]int{{1, 0}, {0}}, api.ErrForm},
		{[][]int{{1, 0}, {0, 1, 0}}, api.ErrForm},
		{[][]int{{1, 0}, nil}, api.ErrForm},
		{slices.Repeat([][]int{{0, 0, 0, 0, 0, 0}}, 6), api.ErrForm},
		{slices.Repeat([][]int{{0, 0, 0, 0, 0, 0}}, 5), api.ErrForm},
		{slices.Repeat([][]int{{0, 0, 0, 0, 0}}, 6), api.ErrForm},
		// The form of the whole comes before numbers.
		{[][]int{{1001, 0}, {0}}, api.ErrForm},
		{[][]int{{1001, 0}, {0, 0}}, api.ErrArg},
		{[][]int{{0, -1001}, {0, 0}}, api.ErrArg},
		{[][]int{{0, 0}, {0, 1001}}, api.ErrArg},
		{[][]int{{0, 0, 0, 0, 0}, {0, 0, 0, 0, 0}, {0, 0, 0, 0, 0}, {0, 0, 0, 0, 0}, {0, 0, 0, 0, 1001}}, api.ErrArg},
	}
	for _, n := range extremes() {
		l = append(l, badMatrix{[][]int{{n}}, api.ErrArg}, badMatrix{[][]int{{1, 0}, {n, 1}}, api.ErrArg})
	}
	return l
}

func TestErrorsOfMatrices(t *testing.T) {
	p := program(t, example)
	for _, c := range badMatrices() {
		what := fmt.Sprint(c.matrix)
		n, e := schedule.Determinant(c.matrix)
		same(t, what, []any{n, e}, []any{0, c.want})
		m, e := schedule.Inverse(c.matrix)
		same(t, what, []any{m, e}, []any{[]int{}, c.want})
		x, e := schedule.Mapped(p, "s", c.matrix)
		same(t, what, []any{x, e}, []any{api.Plan{}, c.want})
	}
}

// P5.4: matrices that add a variable to another one.
func TestSkew(t *testing.T) {
	for _, c := range []struct {
		n, row, by, factor int
		want               string
	}{
		{2, 1, 0, 3, "1 0, 3 1"},
		{2, 0, 1, 3, "1 3, 0 1"},
		{2, 0, 1, 0, "1 0, 0 1"},
		{3, 2, 0, -1000, "1 0 0, 0 1 0, -1000 0 1"},
		{3, 0, 2, 1000, "1 0 1000, 0 1 0, 0 0 1"},
		{5, 4, 3, -7, "1 0 0 0 0, 0 1 0 0 0, 0 0 1 0 0, 0 0 0 1 0, 0 0 0 -7 1"},
	} {
		m, e := schedule.Skew(c.n, c.row, c.by, c.factor)
		same(t, fmt.Sprint(c), []any{m, e}, []any{square(t, c.want), api.OK})
	}
	wrong := [][4]int{{0, 0, 1, 1}, {-1, 0, 1, 1}, {6, 0, 1, 1}, {1, 0, 0, 1}, {1, 0, 1, 1}, {2, 0, 0, 1}, {2, 1, 1, 0}, {2, 2, 0, 1}, {2, 0, 2, 1}, {2, -1, 0, 1}, {2, 0, -1, 1}, {2, 0, 1, 1001}, {2, 0, 1, -1001}, {5, 5, 0, 1}, {5, 0, 5, 1}}
	for _, n := range extremes() {
		wrong = append(wrong, [4]int{n, 0, 1, 1}, [4]int{2, n, 1, 1}, [4]int{2, 0, n, 1}, [4]int{2, 0, 1, n})
	}
	for _, c := range wrong {
		m, e := schedule.Skew(c[0], c[1], c[2], c[3])
		same(t, fmt.Sprint(c), []any{m, e}, []any{[]int{}, api.ErrArg})
	}
}

// P5.4: plans by matrices, whose columns are the loops from outside to inside, whatever their names.
func TestMapped(t *testing.T) {
	const text = "array a[9]; for z = 0 .. 1 { s: a[0] = 1; if z >= 0 { for k = 0 .. 900000 { for b = 0 .. 1 { t: a[77] = 1; } } } } u: a[0] = 1; " +
		"for i = 0 .. 1 { for j = 0 .. 1 { for l = 0 .. 1 { for m = 0 .. 1 { for n = 0 .. 1 { v: a[0] = 1; for o = 0 .. 1 { w: a[0] = 1; } } } } } }"
	p := program(t, text)
	for _, c := range []struct{ key, matrix, want string }{
		{"s", "1", "s: z"},
		{"s", "-1000", "s: -1000*z"},
		{"s", "0", "s: 0"},
		{"t", "1 2 3, 0 1 0, 0 0 0", "t: 3*b + 2*k + z, k, 0"},
		{"t", "0 0 1, -1 0 0, 0 -5 0", "t: b, -z, -5*k"},
		{"v", "1 0 0 0 0, 0 1 0 0 0, 0 0 1 0 0, 0 0 0 1 0, 1000 0 0 0 -1000", "v: i, j, l, m, 1000*i - 1000*n"},
	} {
		x, e := schedule.Mapped(p, c.key, square(t, c.matrix))
		same(t, c.key+" "+c.matrix, []any{written([]api.Plan{x}), e}, []any{c.want, api.OK})
	}
	one, two, five := [][]int{{1}}, [][]int{{1, 0}, {0, 1}}, square(t, "1 0 0 0 0, 0 1 0 0 0, 0 0 1 0 0, 0 0 0 1 0, 1000 0 0 0 -1000")
	type test struct {
		key    string
		matrix [][]int
		want   api.Errno
	}
	tests := []test{
		{"z", nil, api.ErrNone},
		{"x", nil, api.ErrNone},
		{"a", one, api.ErrNone},
		{"s", nil, api.ErrForm},
		{"s", [][]int{{1001}}, api.ErrArg},
		{"u", [][]int{{1001}}, api.ErrArg},
		{"t", [][]int{{1001}}, api.ErrArg},
		{"u", nil, api.ErrForm},
		{"u", one, api.ErrForm},
		{"s", two, api.ErrForm},
		{"t", one, api.ErrForm},
		{"t", two, api.ErrForm},
		{"v", two, api.ErrForm},
		{"w", five, api.ErrForm},
		{"t", five, api.ErrForm},
	}
	for _, key := range noNames() {
		tests = append(tests, test{key, nil, api.ErrName})
	}
	for _, c := range tests {
		x, e := schedule.Mapped(p, c.key, c.matrix)
		same(t, fmt.Sprint(c.key, c.matrix), []any{x, e}, []any{api.Plan{}, c.want})
	}
}
