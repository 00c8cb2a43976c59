package house

import (
	"strconv"
	"strings"

	"warpbeam/api"
	"warpbeam/cache"
	"warpbeam/depend"
	"warpbeam/diff"
	"warpbeam/emit"
	"warpbeam/nest"
	"warpbeam/run"
	"warpbeam/shape"
)

// question is what a line asks of a program, with the console's grids and the numbers of the line.
type question func(p api.Program, g []api.Grid, n []int) (string, api.Errno)

// asking is the action that puts a question to the program with the first name of the line.
func asking(q question) action {
	return func(c *Console, f fields) (string, api.Errno) {
		p, e := c.program(f.words[0])
		if e != api.OK {
			return "", e
		}
		return q(p, c.grids, f.numbers)
	}
}

func show(p api.Program, _ []api.Grid, _ []int) (string, api.Errno) { return nest.Text(p) }

func results(p api.Program, g []api.Grid, _ []int) (string, api.Errno) {
	out, e := run.Run(p, g)
	if e != api.OK {
		return "", e
	}
	return run.GridsText(out)
}

func moves(p api.Program, _ []api.Grid, _ []int) (string, api.Errno) {
	l, e := shape.Moves(p)
	if e != api.OK {
		return "", e
	}
	var lines []string
	for _, m := range l {
		lines = append(lines, moveText(m))
	}
	return rows(lines), api.OK
}

func free(p api.Program, _ []api.Grid, _ []int) (string, api.Errno) {
	l, e := depend.Free(p)
	if e != api.OK || len(l) == 0 {
		return "", e
	}
	return row(l...), api.OK
}

func waves(p api.Program, _ []api.Grid, _ []int) (string, api.Errno) {
	_, many, e := depend.Waves(p)
	if e != api.OK {
		return "", e
	}
	return row(many), api.OK
}

func tally(p api.Program, _ []api.Grid, n []int) (string, api.Errno) {
	c := api.Cache{Line: n[0], Sets: n[1], Ways: n[2]}
	places, e := cache.Pack(p, c.Line)
	if e != api.OK {
		return "", e
	}
	t, e := cache.Simulate(p, places, c)
	if e != api.OK {
		return "", e
	}
	return row(t.Hits, t.Cold, t.Room, t.Clash, t.Back), api.OK
}

func code(p api.Program, g []api.Grid, n []int) (string, api.Errno) {
	orders, e := emit.Compile(p, n[0])
	if e != api.OK {
		return "", e
	}
	_, done, e := emit.Run(p, orders, g, api.MaxFuel)
	if e != api.OK {
		return "", e
	}
	return row(len(orders), done), api.OK
}

func derive(p api.Program, _ []api.Grid, _ []int) (string, api.Errno) {
	q, e := diff.Forward(p)
	if e != api.OK {
		return "", e
	}
	return nest.Text(q)
}

// row is a line of numbers.
func row(l ...int) string {
	var words []string
	for _, n := range l {
		words = append(words, strconv.Itoa(n))
	}
	return strings.Join(words, " ") + "\n"
}
