package run

import (
	"warpbeam/api"
)

// runner runs a program any number of times; if it has no run, wrong says why.
type runner struct {
	trace *trace
	wrong api.Errno
}

func newRunner(p api.Program) runner {
	t, e := traced(p)
	return runner{trace: t, wrong: e}
}

func (r runner) run(g []api.Grid) ([]api.Grid, api.Errno) {
	if r.wrong != api.OK {
		return nil, r.wrong
	}
	t := r.trace
	if e := t.checkGrids(g); e != api.OK {
		return nil, e
	}
	memory := t.load(g)
	for i := range t.instances {
		t.do(i, memory)
	}
	return t.grids(memory), api.OK
}

// do does an instance.
func (t *trace) do(number int, memory []int) {
	x := t.instances[number]
	next := t.starts[number] // the access that comes next
	pile := make([]int, 0, api.MaxDepth)
	for _, o := range t.statements[x.statement].work {
		switch o.op {
		case api.OpNumber:
			pile = append(pile, o.number)
		case api.OpForm:
			pile = append(pile, modulo(o.form.value(x.values)))
		case api.OpRead:
			pile = append(pile, memory[t.cells[next]])
			next++
		default:
			top := len(pile) - 1
			pile[top-1] = combined(o.op, pile[top-1], pile[top])
			pile = pile[:top]
		}
	}
	memory[t.cells[next]] = pile[0]
}

// combined is the sum, the difference or the product of two values.
func combined(op, a, b int) int {
	switch op {
	case api.OpAdd:
		return modulo(a + b)
	case api.OpSub:
		return modulo(a - b)
	}
	return modulo(a * b)
}
