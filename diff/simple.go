package diff

import (
	"warpbeam/api"
	"warpbeam/nest"
)

// checkExpr says what is wrong with an expression that stands at a depth, and in no program.
func checkExpr(x api.Expr, depth int) api.Errno {
	switch {
	case depth > api.MaxDepth:
		return api.ErrLarge
	case x.Op < api.OpNumber || x.Op > api.OpMul:
		return api.ErrKind
	case !hasItsFields(x):
		return api.ErrForm
	case x.N < 0 || x.N >= api.Prime:
		return api.ErrArg
	case x.Op == api.OpForm:
		return nest.CheckForm(x.Form)
	case x.Op == api.OpRead:
		return checkPlace(x.Array, x.Subs)
	}
	return first(x.Args, func(y api.Expr) api.Errno { return checkExpr(y, depth+1) })
}

// checkPlace says what is wrong with a cell of an array that need not exist.
func checkPlace(array string, subs []api.Form) api.Errno {
	if !isName(array) {
		return api.ErrName
	}
	if len(subs) == 0 || len(subs) > api.MaxDims {
		return api.ErrForm
	}
	return first(subs, nest.CheckForm)
}

// hasItsFields reports whether an expression has as many Args as its Op needs, and nothing in fields that it does not use.
func hasItsFields(x api.Expr) bool {
	args := 0
	if isOperator(x.Op) {
		args = 2
	}
	number := x.Op == api.OpNumber || x.N == 0
	form := x.Op == api.OpForm || x.Form.Const == 0 && len(x.Form.Terms) == 0
	read := x.Op == api.OpRead || x.Array == "" && len(x.Subs) == 0
	return len(x.Args) == args && number && form && read
}

func isOperator(op int) bool { return op == api.OpAdd || op == api.OpSub || op == api.OpMul }

// isName reports whether a string can be the name of an array: the same strings can be variables.
func isName(s string) bool {
	return nest.CheckForm(api.Form{Terms: []api.Term{{Name: s, Coef: 1}}}) == api.OK
}

// simple is an expression made simple. It can share memory with it.
func simple(x api.Expr) api.Expr {
	if isOperator(x.Op) {
		return joined(x.Op, simple(x.Args[0]), simple(x.Args[1]))
	}
	if x.Op == api.OpForm && len(x.Form.Terms) == 0 {
		return number(modulo(x.Form.Const))
	}
	return x
}

// joined is an operator with Args that are simple, made simple. It is a number, one of them, or both under the operator, so no rule applies any more.
func joined(op int, a, b api.Expr) api.Expr {
	neutral := 0
	if op == api.OpMul {
		neutral = 1
	}
	switch {
	case a.Op == api.OpNumber && b.Op == api.OpNumber:
		return number(combined(op, a.N, b.N))
	case op == api.OpMul && (isNumber(a, 0) || isNumber(b, 0)):
		return number(0)
	case isNumber(b, neutral):
		return a
	case op != api.OpSub && isNumber(a, neutral):
		return b
	}
	return api.Expr{Op: op, Args: []api.Expr{a, b}}
}

func number(n int) api.Expr { return api.Expr{Op: api.OpNumber, N: n} }

func isNumber(x api.Expr, n int) bool { return x.Op == api.OpNumber && x.N == n }

// combined is what an operator makes of two values.
func combined(op, a, b int) int {
	switch op {
	case api.OpMul:
		return modulo(a * b)
	case api.OpSub:
		b = -b
	}
	return modulo(a + b)
}

// modulo is a number as a value of a cell.
func modulo(n int) int {
	n %= api.Prime
	if n < 0 {
		n += api.Prime
	}
	return n
}

// degree is that of a simple expression in its reads.
func degree(x api.Expr) int {
	switch x.Op {
	case api.OpNumber, api.OpForm:
		return 0
	case api.OpRead:
		return 1
	}
	a, b := degree(x.Args[0]), degree(x.Args[1])
	if x.Op == api.OpMul {
		return a + b
	}
	return max(a, b)
}
