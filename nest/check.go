package nest

import (
	"warpbeam/api"
)

// endless is a number of steps that no permitted argument has. Lists that share memory can stand for far more of them than could ever be gone through.
const endless = 200_000

// Check says what is wrong with a program.
func Check(p api.Program) api.Errno {
	if len(p.Arrays) > api.MaxArrays {
		return api.ErrLarge
	}
	c := newChecker()
	if e := first(p.Arrays, c.array); e != api.OK {
		return e
	}
	if e := c.body(p.Steps, 1); e != api.OK {
		return e
	}
	if c.steps > api.MaxSteps {
		return api.ErrLarge
	}
	return api.OK
}

// checker goes through a program: it knows what came before, and what is around.
type checker struct {
	dims       map[string]int  // how many Sizes each array has, by Key
	cells      int             // of all arrays so far
	statements map[string]bool // the Names so far
	loops      map[string]bool // the Names of the loops around
	steps      int             // so far
}

func newChecker() *checker {
	return &checker{dims: map[string]int{}, statements: map[string]bool{}, loops: map[string]bool{}}
}

func (c *checker) array(a api.Array) api.Errno {
	_, taken := c.dims[a.Key]
	switch {
	case !isName(a.Key):
		return api.ErrName
	case taken:
		return api.ErrTwice
	case len(a.Sizes) == 0:
		return api.ErrNone
	case len(a.Sizes) > api.MaxDims:
		return api.ErrLarge
	}
	for _, n := range a.Sizes {
		if n < 1 || n > api.MaxCells {
			return api.ErrArg
		}
	}
	c.dims[a.Key] = len(a.Sizes)
	c.cells += cellsOf(a)
	if c.cells > api.MaxCells {
		return api.ErrFull
	}
	return api.OK
}

// body checks steps in one another, that stand at a depth.
func (c *checker) body(l []api.Step, depth int) api.Errno {
	return first(l, func(s api.Step) api.Errno { return c.step(s, depth) })
}

func (c *checker) step(s api.Step, depth int) api.Errno {
	c.steps++
	switch {
	case depth > api.MaxDepth || c.steps > endless:
		return api.ErrLarge
	case s.Kind < api.StepLoop || s.Kind > api.StepSet:
		return api.ErrKind
	case stepHasMore(s):
		return api.ErrForm
	case s.Kind != api.StepIf && !isName(s.Name):
		return api.ErrName
	}
	switch s.Kind {
	case api.StepLoop:
		return c.loop(s, depth)
	case api.StepIf:
		return c.condition(s, depth)
	}
	return c.statement(s)
}

func (c *checker) loop(s api.Step, depth int) api.Errno {
	_, array := c.dims[s.Name]
	switch {
	case array || c.loops[s.Name]:
		return api.ErrTwice
	case len(s.Low) == 0 || len(s.High) == 0:
		return api.ErrNone
	case len(s.Low) > api.MaxBounds || len(s.High) > api.MaxBounds:
		return api.ErrLarge
	}
	if e := first(s.Low, c.bound); e != api.OK {
		return e
	}
	if e := first(s.High, c.bound); e != api.OK {
		return e
	}
	c.loops[s.Name] = true
	e := c.body(s.Body, depth+1)
	delete(c.loops, s.Name)
	return e
}

func (c *checker) condition(s api.Step, depth int) api.Errno {
	if len(s.Conds) == 0 {
		return api.ErrNone
	}
	if len(s.Conds) > api.MaxBounds {
		return api.ErrLarge
	}
	if e := first(s.Conds, c.form); e != api.OK {
		return e
	}
	return c.body(s.Body, depth+1)
}

func (c *checker) statement(s api.Step) api.Errno {
	if c.statements[s.Name] {
		return api.ErrTwice
	}
	c.statements[s.Name] = true
	if e := c.place(s.Array, s.Subs); e != api.OK {
		return e
	}
	return c.expr(s.Expr, 1)
}

// place checks a cell that is read or set.
func (c *checker) place(array string, subs []api.Form) api.Errno {
	dims, found := c.dims[array]
	if !found {
		return api.ErrNone
	}
	if len(subs) != dims {
		return api.ErrForm
	}
	return first(subs, c.form)
}

func (c *checker) bound(b api.Bound) api.Errno {
	if e := c.form(b.Form); e != api.OK {
		return e
	}
	if b.Div < 1 || b.Div > api.MaxDiv {
		return api.ErrArg
	}
	return api.OK
}

// form checks a form whose variables have to be loops around.
func (c *checker) form(f api.Form) api.Errno {
	if e := CheckForm(f); e != api.OK {
		return e
	}
	for _, t := range f.Terms {
		if !c.loops[t.Name] {
			return api.ErrRule
		}
	}
	return api.OK
}

func (c *checker) expr(x api.Expr, depth int) api.Errno {
	switch {
	case depth > api.MaxDepth:
		return api.ErrLarge
	case x.Op < api.OpNumber || x.Op > api.OpMul:
		return api.ErrKind
	case len(x.Args) != argsOf(x.Op) || exprHasMore(x):
		return api.ErrForm
	case x.N < 0 || x.N >= api.Prime:
		return api.ErrArg
	}
	switch x.Op {
	case api.OpForm:
		return c.form(x.Form)
	case api.OpRead:
		return c.place(x.Array, x.Subs)
	}
	return first(x.Args, func(y api.Expr) api.Errno { return c.expr(y, depth+1) })
}

// argsOf is how many Args an operator needs.
func argsOf(op int) int {
	switch op {
	case api.OpAdd, api.OpSub, api.OpMul:
		return 2
	}
	return 0
}

// stepHasMore reports whether a field that the Kind does not use is not zero.
func stepHasMore(s api.Step) bool {
	switch s.Kind {
	case api.StepLoop:
		s.Name, s.Low, s.High, s.Body = "", nil, nil, nil
	case api.StepIf:
		s.Conds, s.Body = nil, nil
	case api.StepSet:
		s.Name, s.Array, s.Subs, s.Expr = "", "", nil, api.Expr{}
	}
	lists := len(s.Low) + len(s.High) + len(s.Conds) + len(s.Body) + len(s.Subs)
	return s.Name != "" || s.Array != "" || lists > 0 || s.Expr.Op != 0 || len(s.Expr.Args) > 0 || exprHasMore(s.Expr)
}

// exprHasMore reports whether a field other than Args that the Op does not use is not zero.
func exprHasMore(x api.Expr) bool {
	switch x.Op {
	case api.OpNumber:
		x.N = 0
	case api.OpForm:
		x.Form = api.Form{}
	case api.OpRead:
		x.Array, x.Subs = "", nil
	}
	return x.N != 0 || x.Form.Const != 0 || len(x.Form.Terms) > 0 || x.Array != "" || len(x.Subs) > 0
}
