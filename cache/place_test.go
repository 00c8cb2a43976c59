package cache_test

import (
	"strings"
	"testing"

	"warpbeam/api"
	"warpbeam/cache"
)

// three is a program with three arrays that are not in the order of their Keys, and a loop that can be tiled.
const three = `array b[2, 3];
array c[4];
array a[5];
for i = 0 .. 1 {
  for j = 0 .. 2 {
    s: b[i, j] = c[i + j] + a[4];
  }
}
`

// right is an input without errors for it.
func right(t *testing.T) input {
	return input{
		places: places(t, "a 20, b 4 turned, c 0"), cache: api.Cache{Line: 2, Sets: 2, Ways: 1},
		line: 3, most: 4, lines: 2, loop: 0, sizes: []int{2, 1},
	}
}

func TestRightInput(t *testing.T) {
	for name, got := range results(program(t, three), right(t)) {
		if !strings.HasSuffix(got, "0]") && got != "0" {
			t.Error(name, got)
		}
	}
}

// P8.1: the errors of run.Accesses come first, whatever else is wrong.
func TestProgramErrors(t *testing.T) {
	bad := input{places: []api.Place{{Key: "A"}}, cache: api.Cache{Line: -1}, line: -1, most: -1, lines: -1, loop: -1}
	for _, f := range failures(t) {
		for _, x := range []input{right(t), bad} {
			for name, got := range results(f.program, x) {
				same(t, name, got, failed(name, f.want))
			}
		}
	}
}

// placing is places of the program three with their error.
type placing struct {
	text string
	want api.Errno
}

func checkPlacings(t *testing.T, l []placing) {
	t.Helper()
	p := program(t, three)
	for _, c := range l {
		same(t, "CheckPlaces of "+c.text, cache.CheckPlaces(p, places(t, c.text)), c.want)
	}
}

// P8.1: the errors of places, each one just beside what is right.
func TestPlacesErrors(t *testing.T) {
	checkPlacings(t, []placing{
		{"a 0, b 5, c 11", api.OK},
		{"a 10, b 4, c 0", api.OK},
		{"a 0 turned, b 5 turned, c 11 turned", api.OK},
		{"a 0, b 5, c 1000000", api.OK},
		{"A 0, b 5, c 11", api.ErrName},
		{"a 0, b 5, c_ 11, c_ 12", api.ErrNone},
		{"b 5, a 0, c 11", api.ErrOrder},
		{"a 0, a 0, b 5, c 11", api.ErrOrder},
		{"a 0, b 5, c 11, c 15", api.ErrOrder},
		{"a 0, b 5, c 11, d 20", api.ErrNone},
		{"a 0, ab 90, b 5, c 11", api.ErrNone},
		{"a -1, b 5, c 11", api.ErrArg},
		{"a 0, b 5, c 1000001", api.ErrArg},
		{"", api.ErrForm},
		{"a 0, b 5", api.ErrForm},
		{"b 5, c 11", api.ErrForm},
		{"a 0, c 11", api.ErrForm},
		{"a 0, b 4, c 11", api.ErrConflict},
		{"a 0, b 5, c 10", api.ErrConflict},
		{"a 8, b 4, c 0", api.ErrConflict},
		{"a 0, b 5 turned, c 10", api.ErrConflict},
		{"a 0, b 7, c 0", api.ErrConflict},
		{"a 1, b 3, c 90", api.ErrConflict},
	})
}

// Z4: of several errors of places that of the first element counts, and of it the one that the chapter names first.
func TestOrderOfPlacesErrors(t *testing.T) {
	checkPlacings(t, []placing{
		{"a -1, B 0", api.ErrArg},
		{"d 0, B 0", api.ErrNone},
		{"a 0, A 0", api.ErrName},
		{"a 0, A -1", api.ErrName},
		{"b 0, aa 0", api.ErrOrder},
		{"b 0, aa -1", api.ErrOrder},
		{"b 0, a -1", api.ErrOrder},
		{"a 0, aa -1", api.ErrNone},
		{"a 0, b 0, c -1", api.ErrArg},
		{"a 0, b -1", api.ErrArg},
		{"a 0, b 0", api.ErrForm},
	})
}

// P8.1: all functions with places have their error, ahead of those of their own.
func TestPlacesErrorsOfAll(t *testing.T) {
	p := program(t, three)
	for _, c := range []placing{{"A 0", api.ErrName}, {"b 0, a 0", api.ErrOrder}, {"d 0", api.ErrNone}, {"a -1", api.ErrArg}, {"a 0", api.ErrForm}, {"a 0, b 0, c 0", api.ErrConflict}} {
		x := right(t)
		x.places = places(t, c.text)
		fails(t, c.text, p, x, withPlaces, c.want)
		x = input{places: x.places, cache: api.Cache{Line: -1}, line: -1, most: -1, lines: -1}
		for _, name := range strings.Fields(withPlaces) {
			same(t, name+" of "+c.text, results(p, x)[name], failed(name, c.want))
		}
	}
}

func TestNamesAndStartsOfPlaces(t *testing.T) {
	p := program(t, three)
	for _, s := range noNames() {
		same(t, s, cache.CheckPlaces(p, []api.Place{{Key: s}}), api.ErrName)
	}
	for _, n := range outside(0, api.MaxStart) {
		same(t, "Start", cache.CheckPlaces(p, []api.Place{{Key: "a", Start: n}}), api.ErrArg)
	}
	for _, n := range []int{0, api.MaxStart} {
		same(t, "Start", cache.CheckPlaces(program(t, "array a[20000];"), []api.Place{{Key: "a", Start: n}}), api.OK)
	}
}

// P8.1: Pack has the arrays in the order of the program, each one on the next multiple of line, and returns them by Key.
func TestPack(t *testing.T) {
	for _, c := range []struct {
		text string
		line int
		want string
	}{
		{three, 1, "a 10, b 0, c 6"},
		{three, 2, "a 10, b 0, c 6"},
		{three, 3, "a 12, b 0, c 6"},
		{three, 4, "a 12, b 0, c 8"},
		{three, 5, "a 15, b 0, c 10"},
		{three, 64, "a 128, b 0, c 64"},
		{"array a[1]; array b[1]; array c[1];", 1, "a 0, b 1, c 2"},
		{"array a[1]; array b[1]; array c[1];", 64, "a 0, b 64, c 128"},
		{"array z[64]; array a[65]; array b[1];", 64, "a 64, b 192, z 0"},
		{"array a[20000];", 7, "a 0"},
		{"", 7, ""},
	} {
		p := program(t, c.text)
		l, e := cache.Pack(p, c.line)
		same(t, c.text, []any{l, e}, []any{places(t, c.want), api.OK})
		same(t, c.text, cache.CheckPlaces(p, l), api.OK)
	}
}

func TestPackErrors(t *testing.T) {
	p := program(t, three)
	for _, n := range outside(1, api.MaxLine) {
		l, e := cache.Pack(p, n)
		same(t, "Pack", []any{l, e}, []any{[]api.Place{}, api.ErrArg})
	}
}

// P8.1: an address is Start and the number of the cell; if the array is turned, the first index counts fastest.
func TestAddresses(t *testing.T) {
	cells := "s0: a[0, 0, 0] = 1; s1: a[0, 0, 1] = 1; s2: a[0, 1, 0] = 1; s3: a[1, 0, 0] = 1; s4: a[1, 2, 3] = a[1, 0, 2] * a[0, 2, 1];"
	for _, c := range []struct {
		text, places string
		want         []int
	}{
		{"array a[2, 3, 4]; " + cells, "a 0", []int{0, 1, 4, 12, 14, 9, 23}},
		{"array a[2, 3, 4]; " + cells, "a 7", []int{7, 8, 11, 19, 21, 16, 30}},
		{"array a[2, 3, 4]; " + cells, "a 0 turned", []int{0, 6, 2, 1, 13, 10, 23}},
		{"array a[2, 3, 4]; " + cells, "a 100 turned", []int{100, 106, 102, 101, 113, 110, 123}},
		{"array a[9]; s: a[4] = a[8];", "a 3 turned", []int{11, 7}},
		{"array a[2, 2]; array b[3, 2]; s: b[2, 0] = a[0, 1] - b[0, 1];", "a 50 turned, b 5", []int{52, 6, 9}},
		{"array a[2, 2]; array b[3, 2]; s: b[2, 0] = a[0, 1] - b[0, 1];", "a 50, b 5 turned", []int{51, 8, 7}},
		{"array a[2, 3, 2, 2]; s: a[1, 2, 1, 0] = a[1, 0, 0, 1];", "a 0 turned", []int{13, 11}},
		{"array a[20000]; s: a[19999] = 0;", "a 1000000", []int{1_019_999}},
		{"array a[5]; for i = 1 .. 0 { s: a[0] = 0; }", "a 0", nil},
		{"", "", nil},
	} {
		l, e := cache.Addresses(program(t, c.text), places(t, c.places))
		same(t, c.text+c.places, []any{l, e}, []any{append([]int{}, c.want...), api.OK})
	}
}
