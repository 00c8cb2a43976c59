package house_test

import (
	"fmt"
	"strings"
	"testing"

	"warpbeam/api"
	"warpbeam/cache"
	"warpbeam/depend"
	"warpbeam/diff"
	"warpbeam/emit"
	"warpbeam/house"
	"warpbeam/nest"
	"warpbeam/run"
	"warpbeam/shape"
)

// with makes a console with a program p, and one that is shifted, q.
func with(t *testing.T, text string) *house.Console {
	t.Helper()
	c := house.New()
	for _, line := range strings.Split(strings.TrimSuffix(text, "\n"), "\n") {
		do(t, c, "> "+line, "ok\n")
	}
	do(t, c, "put d p", "ok\n")
	return c
}

// The example of the chapter.
func TestExample(t *testing.T) {
	do(t, house.New(), "> array a[3]; for i = 1 .. 2 { s: a[i] = a[i - 1] + 1; }", "ok\n", "put d p", "ok\n", "run p", "a 0 1 2\nok\n")
	same(t, "Session", house.Session("> array a[3]; for i = 1 .. 2 { s: a[i] = a[i - 1] + 1; }\nput d p\nrun p\n"), "ok\nok\na 0 1 2\nok\n")
}

// P10.4: the time is a moment, and does not go back.
func TestTime(t *testing.T) {
	c := house.New()
	do(t, c, "at 0", "ok\n", "at -1", "error 1\n", "at 345686400000", "error 1\n", "at 999999999999", "error 1\n", "at -999999999999", "error 1\n", "put d p", "ok\n",
		"at 5", "ok\n", "at 5", "ok\n", "at 4", "error 7\n", "at -1", "error 1\n", "put d p", "ok\n", "at 0", "error 7\n", "at 345686399999", "ok\n", "put d p", "ok\n", "at 345686400000", "error 1\n", "at 345686399998", "error 7\n", "put d p", "ok\n")
	same(t, "Notes", c.Notes(), notes(put("d", 1, 0, "p", ""), put("d", 2, 5, "p", ""), put("d", 3, api.End-1, "p", ""), put("d", 4, api.End-1, "p", "")))
}

// P10.4: lines of the sheet are put, whatever they are.
func TestSheet(t *testing.T) {
	c := house.New()
	do(t, c, "> array a[3];", "ok\n", "> ", "ok\n", ">  # é\x00\xff\r> ok |", "ok\n", "put d p", "ok\n", "put d q", "ok\n", "> #", "ok\n", ">", "error 9\n", ">x", "error 9\n", " > x", "error 9\n", "> x\n", "error 9\n", "> x\ny", "error 9\n", "put d r", "ok\n")
	same(t, "Notes", c.Notes(), notes(put("d", 1, 0, "p", "array a[3];\n\n # é\x00\xff\r> ok |\n"), put("d", 2, 0, "q", ""), put("d", 3, 0, "r", "#\n")))
	// What cannot be put stays on the sheet.
	do(t, c, "> array b[1]", "ok\n", "put d p", "error 9\n", "put d p", "error 9\n", "> ;", "ok\n", "put D p", "error 5\n", "put d P", "error 5\n", "put d p", "ok\n", "show p", "array b[1];\nok\n", "put d p", "ok\n", "show p", "ok\n")
}

// P10.4: a sheet that is too long to be read.
func TestLongSheets(t *testing.T) {
	for _, c := range []struct {
		bytes       int
		put, grids  string
		many, lines int
	}{{api.MaxText, "ok\n", "error 9\n", 1, 1}, {api.MaxText + 1, "error 2\n", "error 2\n", 0, 1}, {api.MaxText, "ok\n", "error 9\n", 1, 40}, {api.MaxText + 1, "error 2\n", "error 2\n", 0, 40}, {9 * api.MaxText, "error 2\n", "error 2\n", 0, 9}} {
		x := house.New()
		left := c.bytes
		for i := range c.lines {
			size := left / (c.lines - i)
			left -= size
			do(t, x, "> "+strings.Repeat("#", size-1), "ok\n")
		}
		do(t, x, "grids", c.grids, "put d p", c.put, "grids", map[bool]string{true: "ok\n", false: "error 2\n"}[c.many == 1])
		same(t, "Notes", len(x.Notes()), c.many)
	}
}

// P10.4: notes get the time, and the next number of their desk.
func TestNotesOfLines(t *testing.T) {
	c := house.New()
	same(t, "Take", c.Take(notes(drop("d", 7, 2, "x"), drop("f", api.MaxNo, 0, "x"), drop("g", 3, 9, "x"))), api.OK)
	do(t, c, "> "+strings.ReplaceAll(row, "\n", " "), "ok\n", "put d p", "error 7\n", "at 2", "ok\n", "put d p", "ok\n", "drop e q", "ok\n", "drop d q", "ok\n", "at 5", "ok\n", "move e q p reverse 0 0", "ok\n", "drop f p", "error 1\n", "drop g p", "error 7\n", "drop c p", "ok\n")
	text := strings.ReplaceAll(row, "\n", " ") + "\n"
	same(t, "Notes", c.Notes(), notes(
		drop("c", 1, 5, "p"),
		drop("d", 7, 2, "x"), put("d", 8, 2, "p", text), drop("d", 9, 2, "q"),
		drop("e", 1, 2, "q"), move("e", 2, 5, "q", "p", api.MoveReverse, 0, 0),
		drop("f", api.MaxNo, 0, "x"), drop("g", 3, 9, "x"),
	))
	// The desk c counts ahead of e at one moment: q is made of nothing then.
	do(t, c, "names", "ok\n", "show q", "error 8\n")
	do(t, c, "drop D p", "error 5\n", "drop d P", "error 5\n", "put D p", "error 5\n", "put d 1", "error 5\n")
	// At last there are as many notes as can be.
	for i := range api.MaxNotes - 8 {
		do(t, c, fmt.Sprint("drop h x", i), "ok\n")
	}
	do(t, c, "drop h p", "error 2\n", "put d p", "error 2\n", "drop D P", "error 2\n")
	same(t, "Notes", len(c.Notes()), api.MaxNotes)
	same(t, "Take", c.Take(notes(drop("z", 1, 0, "p"))), api.ErrLarge)
	same(t, "Take", c.Take(notes(drop("d", 7, 2, "x"))), api.OK)
}

// P10.4: moves have the errors of the program, and of the move, and those of the note.
func TestMovesOfLines(t *testing.T) {
	c := with(t, chain)
	before := c.Notes()
	for _, x := range []struct{ words, answer string }{
		{"d q p reverse 0 0", "error 16\n"}, {"d q p reverse 0 1", "error 3\n"}, {"d q p exchange 0 0", "error 3\n"}, {"d q p exchange 0 -1", "error 3\n"}, {"d q p fuse 0 0", "error 3\n"}, {"d q p split 0 0", "error 1\n"}, {"d q p shift 0 1001", "error 1\n"},
		{"d q p shift 1 0", "error 8\n"}, {"d q p shift -1 0", "error 8\n"}, {"d q p shift 999999999999 0", "error 8\n"}, {"d q p shift 0 -999999999999", "error 1\n"}, {"d q p skew 0 1", "error 3\n"},
		{"d q r shift 0 1", "error 8\n"}, {"d q R shift 0 1", "error 5\n"}, {"d q for shift 0 1", "error 5\n"}, {"D Q R shift 0 1", "error 5\n"}, {"D Q r shift 0 1", "error 8\n"}, {"D Q p reverse 0 0", "error 16\n"}, {"D q p shift 0 1", "error 5\n"}, {"d Q p shift 0 1", "error 5\n"},
		{"d q p strip 0 1", "error 9\n"}, {"d q P Shift 0 1", "error 9\n"}, {"d q p shift 0", "error 9\n"}, {"d q p shift 0 1 2", "error 9\n"}, {"d q p shift 0 01", "error 9\n"}, {"d q p shift a 1", "error 9\n"}, {"d q p shift 0 1000000000000", "error 9\n"}, {"d q shift 0 1", "error 9\n"},
	} {
		do(t, c, "move "+x.words, x.answer)
	}
	same(t, "Notes", c.Notes(), before)
	do(t, c, "move d q p shift 0 2", "ok\n", "show q", "array a[9];\nfor i = 3 .. 5 {\n  s: a[i - 2] = a[i - 3] + 1;\n}\nok\n", "move e p q shift 0 -1", "ok\n", "show p", "array a[9];\nfor i = 2 .. 4 {\n  s: a[i - 1] = a[i - 2] + 1;\n}\nok\n", "names", "p\nq\nok\n", "drop d p", "ok\n")
	// The desk d counts first, so p is still what e made of q.
	do(t, c, "names", "p\nq\nok\n", "drop e p", "ok\n", "names", "q\nok\n", "show p", "error 8\n")
	same(t, "Notes", c.Notes(), append(before, move("d", 2, 0, "q", "p", api.MoveShift, 0, 2), drop("d", 3, 0, "p"), move("e", 1, 0, "p", "q", api.MoveShift, 0, -1), drop("e", 2, 0, "p")))
}

// P10.4: names at the time.
func TestNamesOfLines(t *testing.T) {
	c := house.New()
	do(t, c, "names", "ok\n", "put d zz", "ok\n", "put d b_1", "ok\n", "put d b", "ok\n", "put d a9", "ok\n", "names", "a9\nb\nb_1\nzz\nok\n", "drop d b", "ok\n", "names", "a9\nb_1\nzz\nok\n")
	// Notes that are later than the time do not count yet.
	same(t, "Take", c.Take(notes(put("e", 1, 7, "c", ""), drop("e", 2, 8, "zz"))), api.OK)
	do(t, c, "names", "a9\nb_1\nzz\nok\n", "show c", "error 8\n", "at 6", "ok\n", "names", "a9\nb_1\nzz\nok\n", "at 7", "ok\n", "names", "a9\nb_1\nc\nzz\nok\n", "at 9", "ok\n", "names", "a9\nb_1\nc\nok\n", "show zz", "error 8\n")
}

// asked are the lines that ask for a program, with any name.
func asked(name string) []string {
	return []string{"show " + name, "run " + name, "moves " + name, "free " + name, "waves " + name, "cache " + name + " 1 1 1", "code " + name + " 1", "derive " + name}
}

// P10.4: a name that is none, and one that is no program.
func TestNamesOfPrograms(t *testing.T) {
	c := with(t, row)
	for _, name := range noNames() {
		for _, line := range asked(name) {
			do(t, c, line, "error 5\n")
		}
	}
	for _, line := range asked("q") {
		do(t, c, line, "error 8\n")
	}
	do(t, c, "drop d p", "ok\n")
	for _, line := range asked("p") {
		do(t, c, line, "error 8\n")
	}
	// The name counts ahead of the numbers behind it.
	do(t, c, "cache P 0 0 0", "error 5\n", "code P 0", "error 5\n", "cache p 0 0 0", "error 8\n", "code p 0", "error 8\n")
}

// P10.4: grids are read from the sheet, and used by run and code.
func TestGridsOfLines(t *testing.T) {
	c := with(t, "array a[3]; array b[2];\nfor i = 0 .. 2 { s: a[i] = a[i] + b[1]; }")
	do(t, c, "run p", "a 0 0 0\nb 0 0\nok\n", "> a 1 2 3", "ok\n", "> b 4 5", "ok\n", "run p", "a 0 0 0\nb 0 0\nok\n", "grids", "ok\n", "run p", "a 6 7 8\nb 4 5\nok\n", "run p", "a 6 7 8\nb 4 5\nok\n", "put d q", "ok\n", "show q", "ok\n")
	// Grids of other arrays are errors of the run, not of the line.
	do(t, c, "run q", "error 8\n", "> c 1", "ok\n", "grids", "ok\n", "run p", "error 8\n", "code p 1", "error 8\n", "> a 1 2", "ok\n", "grids", "ok\n", "run p", "error 3\n", "code p 1", "error 3\n")
	// What cannot be read stays on the sheet, and grids stay as they are.
	do(t, c, "> a 1 2 3", "ok\n", "grids", "ok\n", "> b 4", "ok\n", "> a 9 9 9", "ok\n", "grids", "error 7\n", "run p", "a 1 2 3\nb 0 0\nok\n", "grids", "error 7\n", "put d x", "error 9\n", "> ?", "ok\n", "grids", "error 9\n", "run p", "a 1 2 3\nb 0 0\nok\n")
	c = with(t, "array a[1];")
	do(t, c, "> a 1", "ok\n", "grids", "ok\n", "run p", "a 1\nok\n", "grids", "ok\n", "run p", "a 0\nok\n", "> a 1000003", "ok\n", "grids", "error 1\n", "> ", "ok\n", "grids", "error 9\n")
}

// answers are what lines that ask for a program p should answer.
func answers(p api.Program, g []api.Grid) []string {
	var l []string
	add := func(line, text string, e api.Errno) {
		if e != api.OK {
			text = fmt.Sprint("error ", int(e), "\n")
		} else {
			text += "ok\n"
		}
		l = append(l, line, text)
	}
	text, e := nest.Text(p)
	add("show p", text, e)
	out, e := run.Run(p, g)
	if e == api.OK {
		text, e = run.GridsText(out)
	}
	add("run p", text, e)
	moves, e := shape.Moves(p)
	text = ""
	for _, m := range moves {
		text += fmt.Sprintf("%s %d %d\n", [...]string{"", "exchange", "reverse", "fuse", "split"}[m.Kind], m.Loop, m.Arg)
	}
	add("moves p", text, e)
	free, e := depend.Free(p)
	text = ""
	if len(free) > 0 {
		text = strings.Trim(fmt.Sprint(free), "[]") + "\n"
	}
	add("free p", text, e)
	_, waves, e := depend.Waves(p)
	add("waves p", fmt.Sprintln(waves), e)
	for _, x := range []api.Cache{{Line: 1, Sets: 1, Ways: 1}, {Line: 2, Sets: 4, Ways: 1}, {Line: 4, Sets: 1, Ways: 2}, {Line: 64, Sets: 1024, Ways: 64}, {Line: 65, Sets: 1, Ways: 1}, {Line: 1, Sets: 1025, Ways: 1}, {Line: 1, Sets: 1, Ways: 65}, {}, {Line: -1, Sets: -999_999_999_999, Ways: 999_999_999_999}} {
		places, e := cache.Pack(p, x.Line)
		tally := api.Tally{}
		if e == api.OK {
			tally, e = cache.Simulate(p, places, x)
		}
		add(fmt.Sprint("cache p ", x.Line, x.Sets, x.Ways), strings.Trim(fmt.Sprintln(tally), "{}\n")+"\n", e)
	}
	for _, wide := range []int{1, 4, 16, 0, 17, -999_999_999_999} {
		code, e := emit.Compile(p, wide)
		done := 0
		if e == api.OK {
			_, done, e = emit.Run(p, code, g, api.MaxFuel)
		}
		add(fmt.Sprint("code p ", wide), fmt.Sprintln(len(code), done), e)
	}
	q, e := diff.Forward(p)
	if e == api.OK {
		text, e = nest.Text(q)
	}
	add("derive p", text, e)
	return l
}

// P10.4: what lines ask of a program is what the functions say.
func TestQuestions(t *testing.T) {
	grids, _, _ := run.ReadGrids("a 5 6 7 8 9 1 2 3 4\n")
	for _, text := range []string{
		chain, row, "", "array a[9];\n", "array a[9];\nfor i = 0 .. 2 {\n  for j = 0 .. 2 {\n    s: a[i + j] = a[8 - i] * a[j] + 3;\n    t: a[i + 3*j] = 1;\n  }\n}\nfor k = 0 .. 2 {\n  u: a[k] = a[k] * a[k];\n}\nfor k = 0 .. 2 {\n  v: a[k] = a[k] + 1;\n}\n",
		"array a[9];\nfor i = 0 .. 9 {\n  s: a[i] = 1;\n}\n", "array a[9];\nfor i = 0 .. 50000 {\n  s: a[0] = 1;\n}\n", "array a[9];\narray a_d[1];\n",
	} {
		p := mustRead(t, text)
		c := with(t, text)
		do(t, c, answers(p, nil)...)
		do(t, c, "> a 5 6 7 8 9 1 2 3 4", "ok\n", "grids", "ok\n")
		do(t, c, answers(p, grids)...)
	}
	// Errors and answers that the chapter's functions do not have without grids or names.
	long := "array a[20000];\nfor i = 0 .. 19999 {\n  s: a[i] = <i>;\n}\n"
	do(t, with(t, long), "run p", "error 2\n", "waves p", "1\nok\n", "free p", "0\nok\n", "moves p", "reverse 0 0\nok\n")
	// A run of this is fine, but the fuel does not last.
	slow := "array a[9];\nfor i = 0 .. 49999 {\n  s: a[0] = " + strings.Repeat("<2*i> + ", 8) + "(" + strings.Repeat("2 * ", 8) + "2) + (" + strings.Repeat("3 - ", 8) + "<i>);\n}\n"
	do(t, with(t, slow), "run p", "a 750479 0 0 0 0 0 0 0 0\nok\n", "code p 1", "error 12\n", "code p 16", "error 12\n")
	two := "array a[9];\nfor i = 0 .. 2 {\n  for j = 0 .. 2 {\n    s: a[i] = a[i] + 1;\n  }\n}\nfor k = 0 .. 2 {\n  t: a[k] = 0;\n}\n"
	do(t, with(t, two), "free p", "0 2\nok\n", "waves p", "4\nok\n", "moves p", "exchange 0 0\nreverse 0 0\nfuse 0 0\nreverse 2 0\nok\n")
	do(t, with(t, "array a[1];"), "waves p", "0\nok\n", "free p", "ok\n", "moves p", "ok\n", "cache p 1 1 1", "0 0 0 0 0\nok\n", "run p", "a 0\nok\n", "derive p", "array a[1];\narray a_d[1];\nok\n")
}

// P10.4: lines of another form.
func TestLinesOfNoForm(t *testing.T) {
	c := with(t, row)
	lines := []string{
		"", " ", "\n", "hello", "at", "at ", "at 1 2", "At 1", "put", "put d", "put d p q", "put  p", "put d ", " put d p", "put d  p", "put d p ", "put\td p", "drop", "drop d", "drop d p 1", "names ", "names p", " names", "Names", "name", "names\n", "names\r",
		"show", "show ", "show p p", "show  p", "shows p", "grids ", "grids p", "run", "run p 1", "run p\n", "\nrun p", "moves", "moves p 1", "free", "free p 1", "waves", "waves p 1", "cache", "cache p", "cache p 1 1", "cache p 1 1 1 1", "cache 1 1 1", "code p", "code p 1 1", "code", "derive", "derive p 1",
		"#", "ok", "error 9", "exit", "p", "move", "move d q p", "at 1\nat 2", "put d p\n", "w", "n", "m", "read", "take", ">", ">p", "way p", "tile p 0 0", "array a[1];",
	}
	for _, n := range []string{"", "01", "00", "-0", "+1", "--1", "1.", "0x1", "1_0", "a", "１", "-", "-01", "1000000000000", "-1000000000000", "99999999999999999999"} {
		lines = append(lines, "at "+n, "cache p "+n+" 1 1", "cache p 1 "+n+" 1", "cache p 1 1 "+n, "code p "+n, "move d q p shift "+n+" 0", "move d q p shift 0 "+n, "cache P "+n+" 1 1", "code q "+n)
	}
	for _, line := range lines {
		do(t, c, line, "error 9\n")
	}
	same(t, "Notes", c.Notes(), notes(put("d", 1, 0, "p", row)))
	do(t, c, "put d q", "ok\n", "show q", "ok\n")
}

// P10.4: an error changes nothing.
func TestErrorsChangeNothing(t *testing.T) {
	c := with(t, chain)
	do(t, c, "> a 1 2 3 4 5 6 7 8 9", "ok\n", "grids", "ok\n", "at 5", "ok\n", "> array b[1];", "ok\n")
	before := c.Notes()
	for _, line := range []string{"at 4", "at -1", "hello", "put D p", "put d P", "grids", "move d q p reverse 0 0", "move d q q shift 0 1", "move D q p shift 0 1", "drop D p", "show q", "run q", "cache p 0 1 1", "code p 0", ">", "> x\n"} {
		if got := c.Do(line); !strings.HasPrefix(got, "error ") || strings.Count(got, "\n") != 1 {
			t.Error(line, got)
		}
		same(t, line, c.Notes(), before)
	}
	same(t, "Take", c.Take(notes(drop("d", 1, 0, "x"))), api.ErrConflict)
	same(t, "Take", c.Take(notes(drop("D", 1, 0, "x"))), api.ErrName)
	same(t, "Take", c.Take(notes(drop("e", 1, 0, "p"), drop("e", 1, 0, "p"))), api.ErrOrder)
	same(t, "Notes", c.Notes(), before)
	do(t, c, "run p", "a 1 2 3 4 5 6 7 8 9\nok\n", "put d q", "ok\n", "show q", "array b[1];\nok\n", "names", "p\nq\nok\n")
	same(t, "Notes", c.Notes(), append(before, put("d", 2, 5, "q", "array b[1];\n")))
}

// P10.4: a session is the answers to its lines; empty ones are left out.
func TestSession(t *testing.T) {
	for _, c := range []struct{ script, want string }{
		{"", ""}, {"\n", ""}, {"\n\n\n", ""}, {"names", "ok\n"}, {"names\n", "ok\n"}, {"\nnames\n\n\nnames\n\n", "ok\nok\n"}, {" \n", "error 9\n"}, {"x\n\ny\n", "error 9\nerror 9\n"}, {"at 5\nat 4\nat 5", "ok\nerror 7\nok\n"},
		{"> \n> array a[1];\n\n> # \nput d p\nshow p\nrun p", "ok\nok\nok\nok\narray a[1];\nok\na 0\nok\n"}, {"put d p\r\nnames\n", "error 5\nok\n"}, {"names\r\n", "error 9\n"},
	} {
		same(t, fmt.Sprintf("%q", c.script), fmt.Sprintf("%q", house.Session(c.script)), fmt.Sprintf("%q", c.want))
	}
	// Each session has a console of its own.
	same(t, "again", house.Session("names\nat 0\nshow p"), "ok\nok\nerror 8\n")
}

// P10.4: how long a script can be.
func TestLongScripts(t *testing.T) {
	most := api.MaxScript
	for _, c := range []struct {
		script string
		many   int // answers
	}{
		{strings.Repeat("at 0\n", most), most}, {strings.Repeat("at 0\n", most-1) + "at 0", most}, {strings.Repeat("\n", most), 0}, {strings.Repeat("\n", most-1) + "at 0", 1},
		{"> " + strings.Repeat("#", api.MaxText-2), 1}, {"> " + strings.Repeat("#", api.MaxText-3) + "\n", 1},
	} {
		same(t, "most", house.Session(c.script), strings.Repeat("ok\n", c.many))
	}
	for _, script := range []string{
		strings.Repeat("at 0\n", most+1), strings.Repeat("at 0\n", most) + "at 0", strings.Repeat("\n", most+1), strings.Repeat("\n", most) + "x",
		"> " + strings.Repeat("#", api.MaxText-1), "> " + strings.Repeat("#", api.MaxText-2) + "\n", strings.Repeat("\n", api.MaxText+1), strings.Repeat("?", 200_000),
	} {
		same(t, "more", house.Session(script), "error 2\n")
	}
}
