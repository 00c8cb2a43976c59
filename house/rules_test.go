package house_test

import (
	"cmp"
	"fmt"
	"reflect"
	"slices"
	"strings"
	"sync"
	"testing"

	"warpbeam/api"
	"warpbeam/house"
)

// rich is notes with a bit of everything, at the end of which p, q and r are programs.
func rich() []api.Note {
	const wide = `array a[9];
array c[9, 9];
for i = 1 .. 3 {
  for j = 0 .. 2 {
    if i + j >= 0, 7 >= 0 {
      s: c[i, j] = c[i - 1, j] * 3 + <i - 2*j>;
    }
  }
}
for h = max(1, 0) .. (7)/2 {
  u: a[h] = 1;
}
`
	return notes(
		put("d", 1, 1, "p", wide),
		move("d", 2, 2, "p", "p", api.MoveSkew, 0, 1),
		drop("d", 3, 8, "s"),
		put("d", 4, 9, "r", row),
		move("e-1", 1, 2, "q", "p", api.MoveShift, 2, 1),
		move("e-1", 7, 3, "s", "q", api.MoveReverse, 1, 0),
	)
}

// session is the answers of a console that took notes.
func session(l []api.Note) string {
	c := house.New()
	text := fmt.Sprintln(c.Take(l))
	for _, line := range []string{"at 8", "names", "show p", "moves q", "> a 1 2 3 4 5 6 7 8 9", "grids", "run q", "code p 4", "move f t p shift 0 1", "at 9", "free r", "derive r", "waves p", "cache q 2 2 2", "names"} {
		text += line + "\n" + c.Do(line)
	}
	return text + fmt.Sprintf("%+v", c.Notes())
}

// summary is the results of all functions.
func summary(l []api.Note) string {
	all := results(l)
	all["session"] = session(l)
	all["Get q"], all["Way q"] = got(l, "q", 9), gone(l, "q", 9)
	text, _ := house.Text(l)
	m, line, e := house.Read(text)
	all["Read"] = fmt.Sprintf("%+v", []any{m, line, int(e)})
	var lines []string
	for name := range all {
		lines = append(lines, name+": "+all[name])
	}
	slices.Sort(lines)
	return strings.Join(lines, "\n")
}

// What the summary is made of has no errors.
func TestSummary(t *testing.T) {
	s := summary(rich())
	if strings.Contains(s, "error") || strings.Count(s, "\n") < 100 {
		t.Error(s)
	}
	same(t, "Names", named(rich(), 9), "[p q r] 0")
	same(t, "Way", gone(rich(), "q", 9), "[0 1 4] 0")
}

// lists calls visit for each list in a value.
func lists(v reflect.Value, visit func(l reflect.Value)) {
	switch v.Kind() {
	case reflect.Struct:
		for i := range v.NumField() {
			lists(v.Field(i), visit)
		}
	case reflect.Slice:
		visit(v)
		for i := range v.Len() {
			lists(v.Index(i), visit)
		}
	}
}

// room is the memory of a list, up to its capacity.
type room struct {
	kind        string
	first, last uintptr
}

// rooms are those of all lists in some values.
func rooms(values ...any) []room {
	var l []room
	for _, x := range values {
		lists(reflect.ValueOf(x), func(v reflect.Value) {
			if v.Cap() > 0 {
				l = append(l, room{v.Type().String(), v.Pointer(), v.Pointer() + uintptr(v.Cap())*v.Type().Elem().Size()})
			}
		})
	}
	return l
}

// Z2: results are new memory: their lists share none with each other, nor with arguments.
func TestResultsShareNothing(t *testing.T) {
	l := rich()
	other := l[:3]
	c := house.New()
	c.Take(l)
	text, _ := house.Text(l)
	all := []any{l, c.Notes(), c.Notes()}
	add := func(x any, e api.Errno) {
		same(t, "error", e, api.OK)
		all = append(all, x)
	}
	for _, a := range [][]api.Note{l, other, nil} {
		for _, b := range [][]api.Note{l, other} {
			m, e := house.Merge(a, b)
			add(m, e)
		}
	}
	for range 2 {
		names, e := house.Names(l, 9)
		add(names, e)
		m, _, e := house.Read(text)
		add(m, e)
		for _, name := range names {
			p, _, e := house.Get(l, name, 9)
			add(p, e)
			way, e := house.Way(l, name, 9)
			add(way, e)
		}
	}
	made := rooms(all...)
	if len(made) < 120 {
		t.Error("too few lists", len(made))
	}
	slices.SortFunc(made, func(a, b room) int { return cmp.Compare(a.first, b.first) })
	for i := 1; i < len(made); i++ {
		if made[i].first < made[i-1].last {
			t.Errorf("%s and %s share memory", made[i-1].kind, made[i].kind)
		}
	}
}

// Z2: arguments are not changed, and what is in the memory of a list after its length is not looked at, and stays.
func TestArgumentsStay(t *testing.T) {
	l := rich()
	want := summary(l)
	same(t, "notes", l, rich())
	long := append(slices.Grow(rich(), 9), drop("?", -1, -1, "?"), drop("a", 1, 1, "p"))
	behind := fmt.Sprint(long)
	same(t, "all", summary(long[:len(l)]), want)
	same(t, "behind", fmt.Sprint(long), behind)
}

// Z2: what a console keeps is changed by nothing but its methods.
func TestConsolesKeepNothing(t *testing.T) {
	l := rich()
	c := house.New()
	same(t, "Take", c.Take(l), api.OK)
	spoil := func(l []api.Note) {
		l = l[:cap(l)]
		for i := range l {
			l[i] = drop("?", -1, -1, "?")
		}
	}
	spoil(l)
	same(t, "Notes", c.Notes(), rich())
	spoil(c.Notes())
	same(t, "Notes", c.Notes(), rich())
	before := c.Notes()
	do(t, c, "at 10", "ok\n", "drop e-1 p", "ok\n", "put a p", "ok\n")
	same(t, "before", before, rich())
	// Two consoles have nothing in common.
	d := house.New()
	same(t, "Notes", []any{len(d.Notes()), len(c.Notes())}, []any{0, 8})
	do(t, d, "> array b[1];", "ok\n", "at 3", "ok\n")
	do(t, c, "put a z", "ok\n", "show z", "ok\n", "at 9", "error 7\n")
	do(t, d, "put a z", "ok\n", "show z", "array b[1];\nok\n", "names", "z\nok\n")
}

// Z5: an empty list is as good as none.
func TestEmptyLists(t *testing.T) {
	same(t, "all", summary([]api.Note{}), summary(nil))
	m, e := house.Merge([]api.Note{}, nil)
	same(t, "Merge", []any{len(m), e}, []any{0, api.OK})
	same(t, "Notes", len(house.New().Notes()), 0)
}

// Z1: lists, names, texts and lines as large as they can be.
func TestLargeValues(t *testing.T) {
	const many = 200_000
	long := strings.Repeat("k", many)
	fails(t, "notes", make([]api.Note, many), api.ErrLarge)
	fails(t, "desk", notes(drop(long, 1, 0, "p")), api.ErrName)
	fails(t, "name", notes(drop("d", 1, 0, long)), api.ErrName)
	fails(t, "of", notes(move("d", 1, 0, "p", long, 1, 0, 0)), api.ErrName)
	fails(t, "text", notes(put("d", 1, 0, "p", long)), api.ErrLarge)
	same(t, "Get", got(rich(), long, 9), none(api.ErrName))
	same(t, "Way", gone(rich(), long, 9), failed("Way", api.ErrName))
	readError(t, long, 0, api.ErrLarge)
	c := house.New()
	for _, line := range []string{long, "at " + strings.Repeat("9", many), "show " + strings.Repeat(" ", many), strings.Repeat("at ", many/3), strings.Repeat("\n", many), "> " + strings.Repeat("\n", many)} {
		do(t, c, line, "error 9\n")
	}
	for _, line := range append(asked(long), "put d "+long, "put "+long+" p", "drop d "+long, "drop "+long+" p", "move d q "+long+" shift 0 1") {
		do(t, c, line, "error 5\n")
	}
	for range 50 {
		do(t, c, "> "+long, "ok\n")
	}
	do(t, c, "put d p", "error 2\n", "grids", "error 2\n")
	same(t, "Session", house.Session(long), "error 2\n")
}

// Z1: programs as large as they can be, as many as there can be.
func TestManyLargePrograms(t *testing.T) {
	var l []api.Note
	for i := range api.MaxNotes {
		text := fmt.Sprintf("array a%d[3];\n", i)
		for k := range api.MaxSteps {
			text += fmt.Sprintf("s%d: a%d[0] = a%d[1] * (a%d[2] + %d) - (a%d[1] - <7>) * a%d[0]; # %s\n", k, i, i, i, k, i, i, strings.Repeat("x", 80))
		}
		l = append(l, put("d", i+1, i, fmt.Sprint("p", i), text))
	}
	names, e := house.Names(l, api.MaxNotes)
	same(t, "Names", []any{len(names), e}, []any{api.MaxNotes, api.OK})
	m, e := house.Merge(l[:150], l[50:])
	same(t, "Merge", []any{len(m), e}, []any{api.MaxNotes, api.OK})
	p, is, e := house.Get(l, "p77", 78)
	same(t, "Get", []any{len(p.Steps), p.Arrays, is, e}, []any{api.MaxSteps, []api.Array{{Key: "a77", Sizes: []int{3}}}, true, api.OK})
}

// Z1 and Z7: calls of several goroutines do not disturb each other, and always have the same results.
func TestCallsAtOnce(t *testing.T) {
	l := rich()
	want := summary(l)
	var group sync.WaitGroup
	for range 8 {
		group.Go(func() {
			for range 10 {
				if got := summary(l); got != want {
					t.Errorf("got %s, want %s", short(got), short(want))
				}
			}
		})
	}
	group.Wait()
}
