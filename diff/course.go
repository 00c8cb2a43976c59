package diff

import (
	"slices"

	"warpbeam/api"
	"warpbeam/run"
)

// use is an access to a cell of a grid (its number by Key). Those to what an instance reads come ahead of that to what it sets.
type use struct {
	grid, cell int
	sets       bool
	rate       int // of a read: the derivative by it of what is set
}

// course is a run on grids, and what is needed to play it again with derivatives: how much what is set hangs on each read is found just once.
type course struct {
	end  []api.Grid // of all arrays, by Key
	uses []use
}

// courseOf is a run on grids, or run.Run's error.
func courseOf(p api.Program, g []api.Grid) (*course, api.Errno) {
	end, e := run.Run(p, g)
	if e != api.OK {
		return nil, e
	}
	instances, e := run.Instances(p)
	if e != api.OK {
		return nil, e
	}
	accesses, e := run.Accesses(p)
	if e != api.OK {
		return nil, e
	}
	c := &course{end: end}
	grids := map[string]int{}
	for i, x := range end {
		grids[x.Key] = i
	}
	c.uses = each(accesses, func(a api.Access) use { return use{grid: grids[a.Array], cell: a.Cell, sets: a.Sets} })
	c.play(p, instances, c.filled(g))
	return c, api.OK
}

// filled are new grids of all arrays, with the values of some.
func (c *course) filled(g []api.Grid) []api.Grid {
	var all []api.Grid
	for _, x := range c.end {
		all = append(all, api.Grid{Key: x.Key, Values: make([]int, len(x.Values))})
	}
	for _, x := range g {
		copy(all[c.gridOf(x.Key)].Values, x.Values)
	}
	return all
}

// gridOf is the number of the grid of an array; below 0 if there is none.
func (c *course) gridOf(key string) int {
	return slices.IndexFunc(c.end, func(x api.Grid) bool { return x.Key == key })
}

// play runs all instances, and finds the rates of all reads.
func (c *course) play(p api.Program, instances []api.Instance, g []api.Grid) {
	all := deeds{}
	all.add(p.Steps, nil)
	at := 0
	for _, x := range instances {
		d := all[x.Key]
		end := at + len(d.read)
		d.around = x.Values
		for i, u := range c.uses[at:end] {
			d.read[i] = g[u.grid].Values[u.cell]
		}
		value := d.value(&d.scene)
		d.rate(&d.scene, 1)
		for i, rate := range d.rates {
			c.uses[at+i].rate = rate
		}
		target := c.uses[end]
		g[target.grid].Values[target.cell] = value
		at = end + 1
	}
}

// deed is what a statement does, with a scene for its instances.
type deed struct {
	part
	scene
}

// deeds are those of statements, by Name.
type deeds map[string]*deed

// add adds those of all statements in steps, with loops around them.
func (all deeds) add(l []api.Step, loops []string) {
	for _, s := range l {
		switch s.Kind {
		case api.StepLoop:
			all.add(s.Body, append(loops, s.Name))
		case api.StepIf:
			all.add(s.Body, loops)
		case api.StepSet:
			m := &maker{loops: loops}
			whole := m.part(s.Expr)
			all[s.Name] = &deed{whole, scene{read: make([]int, m.reads), rates: make([]int, m.reads), kept: make([]int, m.kept)}}
		}
	}
}

// forwards plays the run with derivatives, at first those in g, and returns them as they are at the end.
func (c *course) forwards(g []api.Grid) []api.Grid {
	sum := 0
	for _, u := range c.uses {
		values := g[u.grid].Values
		if u.sets {
			values[u.cell], sum = sum, 0
		} else {
			sum = modulo(sum + u.rate*values[u.cell])
		}
	}
	return g
}

// backwards plays the run from its end to its beginning, with numbers for all cells, at first those in g.
func (c *course) backwards(g []api.Grid) []api.Grid {
	n := 0
	for _, u := range slices.Backward(c.uses) {
		values := g[u.grid].Values
		if u.sets {
			n, values[u.cell] = values[u.cell], 0
		} else {
			values[u.cell] = modulo(values[u.cell] + n*u.rate)
		}
	}
	return g
}

// unit are grids of zeros, but for one cell, which is 1.
func (c *course) unit(grid, cell int) []api.Grid {
	g := c.filled(nil)
	g[grid].Values[cell] = 1
	return g
}

// jacobian has a row for each cell of a grid, and in it a column for each cell of another one. It plays for each of the fewer ones, as there can be far more of the others.
func (c *course) jacobian(column, row int) [][]int {
	m := make([][]int, len(c.end[row].Values))
	columns := len(c.end[column].Values)
	if len(m) <= columns {
		for i := range m {
			m[i] = c.backwards(c.unit(row, i))[column].Values
		}
		return m
	}
	for i := range m {
		m[i] = make([]int, columns)
	}
	for k := range columns {
		for i, n := range c.forwards(c.unit(column, k))[row].Values {
			m[i][k] = n
		}
	}
	return m
}
