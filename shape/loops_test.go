package shape_test

import (
	"strings"
	"testing"

	"warpbeam/api"
	"warpbeam/shape"
)

// P6.1, P6.2: the example of the chapter.
func TestExample(t *testing.T) {
	p := program(t, example)
	same(t, "Exchange", made(shape.Exchange(p, 0)), errors(api.ErrRule))
	q, e := shape.Skew(p, 0, 1)
	same(t, "Skew", made(q, e), "for i = 1 .. 2 { for j = i .. i + 2 { s: a[i, -i + j] = a[i - 1, -i + j + 1]; } }")
	same(t, "Exchange", made(shape.Exchange(q, 0)), errors(api.ErrForm))
}

// everywhere has its variables i, j and k in all kinds of forms.
const everywhere = "for i = 1 .. 2 { for j = max(0, 1) .. min(2, (9)/4) { if 3 - i >= 0, i + j >= 0 { for k = (i + 3*j)/7 .. 2*j - i + 3 { s: c[i, 2*j] = c[i, j + 1] * <k - 3*i + 2*j> + a[2 - j] - 7; } } r: d[i, j] = <i + j>; } }"

func TestExchange(t *testing.T) {
	try(t, []change{
		{"two", eight + "for i = 1 .. 3 { for j = 2 .. 4 { s: c[i, j] = 1; r: d[j, i] = 2; } }", exchange(0), "for j = 2 .. 4 { for i = 1 .. 3 { s: c[i, j] = 1; r: d[j, i] = 2; } }"},
		{"all bounds", eight + "for k = 1 .. 2 { for i = max(k, 1) .. min((2*k + 7)/3, 8) { for j = (k)/2 .. 4 { s: c[i, j] = <i>; } } }", exchange(1), "for k = 1 .. 2 { for j = (k)/2 .. 4 { for i = max(k, 1) .. min((2*k + 7)/3, 8) { s: c[i, j] = <i>; } } }"},
		{"outer of three", eight + "for i = 1 .. 2 { for j = 1 .. 2 { for k = i .. j + 1 { s: c[i, j] = <k>; } } }", exchange(0), "for j = 1 .. 2 { for i = 1 .. 2 { for k = i .. j + 1 { s: c[i, j] = <k>; } } }"},
		{"with others", eight + "u: a[0] = 1; for i = 1 .. 2 { for j = 1 .. 2 { s: c[i, j] = 1; } } v: a[1] = 1;", exchange(0), "u: a[0] = 1; for j = 1 .. 2 { for i = 1 .. 2 { s: c[i, j] = 1; } } v: a[1] = 1;"},
		{"without rounds", eight + "for i = 1 .. 0 { for j = 1 .. 2 { s: c[9, 9] = 1; } }", exchange(0), "for j = 1 .. 2 { for i = 1 .. 0 { s: c[9, 9] = 1; } }"},
		{"empty", eight + "for i = 1 .. 2 { for j = 1 .. 2 { } }", exchange(0), "for j = 1 .. 2 { for i = 1 .. 2 { } }"},
		{"in a condition", eight + "if 1 >= 0 { for i = 1 .. 2 { for j = 1 .. 2 { s: c[i, j] = c[i - 1, j - 1]; } } }", exchange(0), "if 1 >= 0 { for j = 1 .. 2 { for i = 1 .. 2 { s: c[i, j] = c[i - 1, j - 1]; } } }"},
		{"without a loop in it", eight + "for i = 1 .. 2 { s: a[i] = 1; }", exchange(0), errors(api.ErrForm)},
		{"with more in it", eight + "for i = 1 .. 2 { for j = 1 .. 2 { } s: a[i] = 1; }", exchange(0), errors(api.ErrForm)},
		{"with a condition in it", eight + "for i = 1 .. 2 { if 1 >= 0 { for j = 1 .. 2 { } } }", exchange(0), errors(api.ErrForm)},
		{"with nothing in it", eight + "for i = 1 .. 2 { }", exchange(0), errors(api.ErrForm)},
		{"its variable in Low", eight + "for i = 1 .. 2 { for j = max(1, i) .. 2 { } }", exchange(0), errors(api.ErrForm)},
		{"its variable in High", eight + "for i = 1 .. 2 { for j = 1 .. min(2, 4, (i)/2) { } }", exchange(0), errors(api.ErrForm)},
		{"turned flow", eight + "for i = 1 .. 2 { for j = 1 .. 2 { s: c[i, j] = c[i - 1, j + 1]; } }", exchange(0), errors(api.ErrRule)},
		{"turned anti", eight + "for i = 1 .. 2 { for j = 1 .. 2 { s: c[i, j] = c[i + 1, j - 1]; } }", exchange(0), errors(api.ErrRule)},
		{"turned output", eight + "for i = 1 .. 2 { for j = 1 .. 2 { s: a[i + j] = 1; } }", exchange(0), errors(api.ErrRule)},
		{"kept flow", eight + "for i = 1 .. 2 { for j = 1 .. 2 { s: c[i, j] = c[i - 1, j] + c[i, j - 1]; } }", exchange(0), "for j = 1 .. 2 { for i = 1 .. 2 { s: c[i, j] = c[i - 1, j] + c[i, j - 1]; } }"},
		{"too many rounds", eight + "for i = 0 .. 9 { for j = 0 .. 19989 { } }", exchange(0), errors(api.ErrFull)},
		{"as many rounds as can be", eight + "for i = 0 .. 9 { for j = 0 .. 18180 { } }", exchange(0), "for j = 0 .. 18180 { for i = 0 .. 9 { } }"},
		{"a round with too great a value", eight + "for k = 1000 .. 1000 { for i = 1 .. 0 { for j = 1000*k + 1 .. 1000*k + 1 { } } }", exchange(1), errors(api.ErrArg)},
	})
}

func TestReverse(t *testing.T) {
	try(t, []change{
		{"outer", eight + everywhere, reverse(0), "for i = 1 .. 2 { for j = max(0, 1) .. min(2, (9)/4) { if i >= 0, -i + j + 3 >= 0 { for k = (-i + 3*j + 3)/7 .. i + 2*j { s: c[-i + 3, 2*j] = c[-i + 3, j + 1] * <3*i + 2*j + k - 9> + a[-j + 2] - 7; } } r: d[-i + 3, j] = <-i + j + 3>; } }"},
		{"bounds with variables", eight + "for i = 1 .. 2 { for j = i .. 2*i + 1 { s: c[j, i] = c[j, 0]; } }", reverse(1), "for i = 1 .. 2 { for j = i .. 2*i + 1 { s: c[3*i - j + 1, i] = c[3*i - j + 1, 0]; } }"},
		{"no use of it", eight + "for i = 1 .. 2 { s: a[0] = 1; }", reverse(0), errors(api.ErrRule)},
		{"one round", eight + "for i = 3 .. 3 { s: a[i] = a[i - 1]; }", reverse(0), "for i = 3 .. 3 { s: a[-i + 6] = a[-i + 5]; }"},
		{"no round", eight + "for i = 3 .. 1 { s: a[0] = <i>; }", reverse(0), "for i = 3 .. 1 { s: a[0] = <-i + 4>; }"},
		{"ends that go away", eight + "for i = -2 .. 2 { s: a[i + 2] = 1; }", reverse(0), "for i = -2 .. 2 { s: a[-i + 2] = 1; }"},
		{"variables that go away", eight + "for i = 0 .. 2 { for j = -i .. i { s: c[i, j + 3] = <i + j>; } }", reverse(1), "for i = 0 .. 2 { for j = -i .. i { s: c[i, -j + 3] = <i - j>; } }"},
		{"two Low", eight + "for i = max(0, 1) .. 2 { }", reverse(0), errors(api.ErrForm)},
		{"two High", eight + "for i = 0 .. min(2, 3) { }", reverse(0), errors(api.ErrForm)},
		{"Low with Div", eight + "for i = (1)/2 .. 2 { }", reverse(0), errors(api.ErrForm)},
		{"High with Div", eight + "for i = 0 .. (5)/2 { }", reverse(0), errors(api.ErrForm)},
		{"turned flow", eight + "for i = 1 .. 2 { s: a[i] = a[i - 1]; }", reverse(0), errors(api.ErrRule)},
		{"turned anti", eight + "for i = 1 .. 2 { s: a[i] = a[i + 1]; }", reverse(0), errors(api.ErrRule)},
		{"inner, kept", eight + "for i = 1 .. 2 { for j = 1 .. 2 { s: c[i, j] = c[i - 1, j]; } }", reverse(1), "for i = 1 .. 2 { for j = 1 .. 2 { s: c[i, -j + 3] = c[i - 1, -j + 3]; } }"},
		{"with others beside it", eight + "for j = 0 .. 1 { u: a[j] = 1; for i = 1 .. 2 { s: b[i + 3*j] = <j>; } for i = 1 .. 2 { v: c[i, j] = a[j]; } }", reverse(1), "for j = 0 .. 1 { u: a[j] = 1; for i = 1 .. 2 { s: b[-i + 3*j + 3] = <j>; } for i = 1 .. 2 { v: c[i, j] = a[j]; } }"},
		{"too great a number", eight + "for i = 600000 .. 600001 { s: a[i - 600000] = <i>; }", reverse(0), errors(api.ErrArg)},
		// What is beyond the limits between has no error: those of the result count.
		{"too great a number that goes away", eight + "for i = 600000 .. 600001 { s: a[i - 600000] = 1; }", reverse(0), "for i = 600000 .. 600001 { s: a[-i + 600001] = 1; }"},
		{"too great a number that goes nowhere", eight + "for i = 600000 .. 600000 { s: a[0] = 1; }", reverse(0), "for i = 600000 .. 600000 { s: a[0] = 1; }"},
		{"too great a coefficient", eight + "for j = 0 .. 0 { for i = 600*j .. 600*j + 1 { s: a[i] = 1; } }", reverse(1), errors(api.ErrArg)},
		{"too great a coefficient that goes away", eight + "for j = 0 .. 0 { for i = 600*j .. 600*j + 1 { s: a[i - 600*j] = 1; } }", reverse(1), "for j = 0 .. 0 { for i = 600*j .. 600*j + 1 { s: a[-i + 600*j + 1] = 1; } }"},
	})
}

func TestShift(t *testing.T) {
	try(t, []change{
		{"outer", eight + everywhere, shift(0, 2), "for i = 3 .. 4 { for j = max(0, 1) .. min(2, (9)/4) { if -i + 5 >= 0, i + j - 2 >= 0 { for k = (i + 3*j - 2)/7 .. -i + 2*j + 5 { s: c[i - 2, 2*j] = c[i - 2, j + 1] * <-3*i + 2*j + k + 6> + a[-j + 2] - 7; } } r: d[i - 2, j] = <i + j - 2>; } }"},
		{"all bounds", eight + "for j = 0 .. 1 { for i = max(j, (2*j - 3)/2, 0) .. min((j + 9)/4, 5) { s: a[i] = a[i + 1]; } }", shift(1, -3), "for j = 0 .. 1 { for i = max(j - 3, (2*j - 9)/2, -3) .. min((j - 3)/4, 2) { s: a[i + 3] = a[i + 4]; } }"},
		{"by nothing", eight + "for i = 1 .. 2 { s: a[i] = a[i - 1]; }", shift(0, 0), "for i = 1 .. 2 { s: a[i] = a[i - 1]; }"},
		{"what depends", eight + "for i = 1 .. 2 { s: a[i] = a[i - 1]; }", shift(0, 1), "for i = 2 .. 3 { s: a[i - 1] = a[i - 2]; }"},
		{"without rounds", eight + "for i = 2 .. 1 { s: a[i + 70] = 1; }", shift(0, 1), "for i = 3 .. 2 { s: a[i + 69] = 1; }"},
		{"too far", eight + "for i = 999999 .. 1000000 { }", shift(0, 1), errors(api.ErrArg)},
		{"too far with Div", eight + "for i = 0 .. (1000)/1000 { }", shift(0, 1000), errors(api.ErrArg)},
		{"as far as can be", eight + "for i = 0 .. (0)/1000 { }", shift(0, 1000), "for i = 1000 .. (1000000)/1000 { }"},
		{"too far in a form", eight + "for i = 0 .. 1 { s: a[0] = <1000*i - 999999>; }", shift(0, 1), errors(api.ErrArg)},
		{"too far in a round", eight + "for k = 1000 .. 1000 { for i = 1000*k .. 1000*k { s: a[0] = 1; } }", shift(1, 1), errors(api.ErrArg)},
		{"back in a round", eight + "for k = 1000 .. 1000 { for i = 1000*k .. 1000*k { s: a[0] = 1; } }", shift(1, -1), "for k = 1000 .. 1000 { for i = 1000*k - 1 .. 1000*k - 1 { s: a[0] = 1; } }"},
	})
	wrong, right := outside(-api.MaxCoef, api.MaxCoef)
	p := program(t, eight+"for i = 0 .. 0 { s: a[0] = 1; }")
	for _, by := range wrong {
		same(t, "by", made(shape.Shift(p, 0, by)), errors(api.ErrArg))
	}
	for _, by := range right {
		_, e := shape.Shift(p, 0, by)
		same(t, "by", e, api.OK)
	}
}

func TestSkew(t *testing.T) {
	try(t, []change{
		{"two", eight + "for i = 1 .. 2 { for j = i .. 3 { if j >= 0 { s: c[i, j] = c[i - 1, 2*j - i] + <3*j>; } } }", skew(0, 2), "for i = 1 .. 2 { for j = 3*i .. 2*i + 3 { if -2*i + j >= 0 { s: c[i, -2*i + j] = c[i - 1, -5*i + 2*j] + <-6*i + 3*j>; } } }"},
		{"all bounds", eight + "for i = 1 .. 2 { for j = max(0, (i)/2) .. min((7 - i)/3, 4 - i) { for k = j .. i { s: c[i, j] = 1; } } }", skew(0, -1), "for i = 1 .. 2 { for j = max(-i, (-i)/2) .. min((-4*i + 7)/3, -2*i + 4) { for k = i + j .. i { s: c[i, i + j] = 1; } } }"},
		{"below another loop", eight + "for h = 0 .. 1 { for i = 1 .. 2 { for j = h .. 3 { s: c[i, j] = <h>; } } }", skew(1, 1), "for h = 0 .. 1 { for i = 1 .. 2 { for j = h + i .. i + 3 { s: c[i, -i + j] = <h>; } } }"},
		{"by nothing", eight + "for i = 1 .. 2 { for j = i .. 3 { s: c[i, j] = 1; } }", skew(0, 0), "for i = 1 .. 2 { for j = i .. 3 { s: c[i, j] = 1; } }"},
		{"not tight", eight + "for i = 1 .. 2 { s: a[i] = 1; }", skew(0, 1), errors(api.ErrForm)},
		{"not tight, and too far", eight + "for i = 1 .. 2 { for j = 1 .. 2 { } for j = 1 .. 2 { } }", skew(0, 1001), errors(api.ErrForm)},
		{"too great with Div", eight + "for i = 0 .. 0 { for j = 0 .. (5)/3 { s: c[i, j] = 1; } }", skew(0, 334), errors(api.ErrArg)},
		{"great with Div", eight + "for i = 0 .. 0 { for j = 0 .. (5)/3 { s: c[i, j] = 1; } }", skew(0, 333), "for i = 0 .. 0 { for j = 333*i .. (999*i + 5)/3 { s: c[i, -333*i + j] = 1; } }"},
		{"too great with Div, but not at the end", eight + "for i = 0 .. 0 { for j = 0 .. (5 - 600*i)/2 { s: c[i, j] = 1; } }", skew(0, 600), "for i = 0 .. 0 { for j = 600*i .. (600*i + 5)/2 { s: c[i, -600*i + j] = 1; } }"},
		{"too great in a form", eight + "for i = 0 .. 0 { for j = 0 .. 1 { s: c[i, 2*j] = 1; } }", skew(0, 501), errors(api.ErrArg)},
		{"too far in a round", eight + "for i = 1000 .. 1001 { for j = 0 .. 0 { s: c[0, j] = 1; } }", skew(0, 1000), errors(api.ErrArg)},
	})
	wrong, right := outside(-api.MaxCoef, api.MaxCoef)
	p := program(t, eight+"for i = 0 .. 0 { for j = 0 .. 0 { s: a[j] = 1; } }")
	for _, by := range wrong {
		same(t, "by", made(shape.Skew(p, 0, by)), errors(api.ErrArg))
	}
	for _, by := range right {
		_, e := shape.Skew(p, 0, by)
		same(t, "by", e, api.OK)
	}
}

func TestStrip(t *testing.T) {
	try(t, []change{
		{"one", eight + "for i = 1 .. 8 { s: a[i] = a[i - 1]; }", strip(0, 3, "k"), "for k = 0 .. (7)/3 { for i = max(1, 3*k + 1) .. min(8, 3*k + 3) { s: a[i] = a[i - 1]; } }"},
		{"inner", eight + "for h = 1 .. 2 { for i = h .. 3*h + 1 { s: c[h, i] = 1; r: a[0] = 2; } }", strip(1, 2, "k"), "for h = 1 .. 2 { for k = 0 .. (2*h + 1)/2 { for i = max(h, h + 2*k) .. min(3*h + 1, h + 2*k + 1) { s: c[h, i] = 1; r: a[0] = 2; } } }"},
		{"size 1", eight + "for i = 1 .. 3 { s: a[i] = 1; }", strip(0, 1, "a1"), "for a1 = 0 .. 2 { for i = max(1, a1 + 1) .. min(3, a1 + 1) { s: a[i] = 1; } }"},
		{"size 1000", eight + "for i = 1 .. 3 { s: a[i] = 1; }", strip(0, 1000, "k"), "for k = 0 .. (2)/1000 { for i = max(1, 1000*k + 1) .. min(3, 1000*k + 1000) { s: a[i] = 1; } }"},
		{"without rounds", eight + "for i = 3 .. 1 { s: a[i] = 1; }", strip(0, 2, "k"), "for k = 0 .. (-2)/2 { for i = max(3, 2*k + 3) .. min(1, 2*k + 4) { s: a[i] = 1; } }"},
		{"its own name", eight + "for i = 1 .. 3 { s: a[i] = 1; }", strip(0, 2, "i"), errors(api.ErrTwice)},
		{"the name of an array", eight + "for i = 1 .. 3 { s: a[i] = 1; }", strip(0, 2, "b"), errors(api.ErrTwice)},
		{"the name of a statement", eight + "for i = 1 .. 2 { s: a[i] = 1; }", strip(0, 2, "s"), "for s = 0 .. (1)/2 { for i = max(1, 2*s + 1) .. min(2, 2*s + 2) { s: a[i] = 1; } }"},
		{"the name of a loop around", eight + "for h = 1 .. 2 { for i = h .. 3 { s: a[i] = 1; } }", strip(1, 2, "h"), errors(api.ErrTwice)},
		{"the name of a loop in it", eight + "for i = 1 .. 2 { for j = 1 .. 3 { s: a[i] = <j>; } }", strip(0, 2, "j"), errors(api.ErrTwice)},
		{"the name of a loop beside it", eight + "for j = 1 .. 2 { } for i = 1 .. 2 { s: a[i] = 1; }", strip(1, 2, "j"), "for j = 1 .. 2 { } for j = 0 .. (1)/2 { for i = max(1, 2*j + 1) .. min(2, 2*j + 2) { s: a[i] = 1; } }"},
		{"two Low", eight + "for i = max(0, 1) .. 2 { }", strip(0, 2, "k"), errors(api.ErrForm)},
		{"High with Div", eight + "for i = 0 .. (5)/2 { }", strip(0, 2, "k"), errors(api.ErrForm)},
		{"name ahead of size", eight + "for i = 0 .. (5)/2 { }", strip(0, 0, "K"), errors(api.ErrName)},
		{"size ahead of form", eight + "for i = 0 .. (5)/2 { }", strip(0, 0, "k"), errors(api.ErrArg)},
		{"too great a length", eight + "for i = 600000 .. -600000 { }", strip(0, 2, "k"), errors(api.ErrArg)},
		{"too great an end", eight + "for i = 999999 .. 1000000 { }", strip(0, 3, "k"), errors(api.ErrArg)},
		{"too many rounds", eight + "for i = 1 .. 199980 { }", strip(0, 1000, "k"), errors(api.ErrFull)},
		{"as many rounds as can be", eight + "for i = 1 .. 199800 { }", strip(0, 1000, "k"), "for k = 0 .. (199799)/1000 { for i = max(1, 1000*k + 1) .. min(199800, 1000*k + 1000) { } }"},
	})
	p := program(t, eight+"for i = 0 .. 0 { s: a[0] = 1; }")
	for _, name := range noNames() {
		same(t, name, made(shape.Strip(p, 0, 2, name)), errors(api.ErrName))
	}
	wrong, right := outside(1, api.MaxCoef)
	for _, size := range wrong {
		same(t, "size", made(shape.Strip(p, 0, size, "k")), errors(api.ErrArg))
	}
	for _, size := range right {
		_, e := shape.Strip(p, 0, size, "k")
		same(t, "size", e, api.OK)
	}
}

func TestTile(t *testing.T) {
	const square = "for i = 1 .. 8 { for j = 0 .. 5 { s: c[i, j] = c[i - 1, j]; } }"
	try(t, []change{
		{"two", eight + square, tile(0, 3, "k", "l"), "for k = 0 .. (7)/3 { for l = 0 .. (5)/3 { for i = max(1, 3*k + 1) .. min(8, 3*k + 3) { for j = max(0, 3*l) .. min(5, 3*l + 2) { s: c[i, j] = c[i - 1, j]; } } } }"},
		{"below another loop", eight + "for h = 1 .. 2 { for i = h .. 2*h { for j = h + 1 .. 4 { s: c[i, j] = <h>; r: a[i] = 1; } } }", tile(1, 2, "k", "l"), "for h = 1 .. 2 { for k = 0 .. (h)/2 { for l = 0 .. (-h + 3)/2 { for i = max(h, h + 2*k) .. min(2*h, h + 2*k + 1) { for j = max(h + 1, h + 2*l + 1) .. min(4, h + 2*l + 2) { s: c[i, j] = <h>; r: a[i] = 1; } } } } }"},
		{"with others", eight + "u: a[0] = 1; for i = 0 .. 1 { for j = 0 .. 1 { for k = 0 .. 1 { s: c[i, j] = <k>; } } } v: a[1] = 1;", tile(0, 2, "x", "y"), "u: a[0] = 1; for x = 0 .. (1)/2 { for y = 0 .. (1)/2 { for i = max(0, 2*x) .. min(1, 2*x + 1) { for j = max(0, 2*y) .. min(1, 2*y + 1) { for k = 0 .. 1 { s: c[i, j] = <k>; } } } } } v: a[1] = 1;"},
		{"kept", eight + "for i = 1 .. 4 { for j = 1 .. 4 { s: c[i, j] = c[i - 1, j - 1] + c[i - 1, j] + c[i, j - 1]; } }", tile(0, 2, "k", "l"), "for k = 0 .. (3)/2 { for l = 0 .. (3)/2 { for i = max(1, 2*k + 1) .. min(4, 2*k + 2) { for j = max(1, 2*l + 1) .. min(4, 2*l + 2) { s: c[i, j] = c[i - 1, j - 1] + c[i - 1, j] + c[i, j - 1]; } } } }"},
		{"turned", eight + "for i = 1 .. 4 { for j = 1 .. 4 { s: c[i, j] = c[i - 1, j + 1]; } }", tile(0, 2, "k", "l"), errors(api.ErrRule)},
		// With one tile, or with tiles of one row, nothing is turned.
		{"one tile", eight + "for i = 1 .. 4 { for j = 1 .. 4 { s: c[i, j] = c[i - 1, j + 1]; } }", tile(0, 4, "k", "l"), "for k = 0 .. (3)/4 { for l = 0 .. (3)/4 { for i = max(1, 4*k + 1) .. min(4, 4*k + 4) { for j = max(1, 4*l + 1) .. min(4, 4*l + 4) { s: c[i, j] = c[i - 1, j + 1]; } } } }"},
		{"tiles of one", eight + "for i = 1 .. 4 { for j = 1 .. 4 { s: c[i, j] = c[i - 1, j + 1]; } }", tile(0, 1, "k", "l"), "for k = 0 .. 3 { for l = 0 .. 3 { for i = max(1, k + 1) .. min(4, k + 1) { for j = max(1, l + 1) .. min(4, l + 1) { s: c[i, j] = c[i - 1, j + 1]; } } } }"},
		{"outer twice", eight + square, tile(0, 2, "i", "l"), errors(api.ErrTwice)},
		{"inner twice", eight + square, tile(0, 2, "k", "j"), errors(api.ErrTwice)},
		{"names exchanged", eight + square, tile(0, 2, "j", "i"), errors(api.ErrTwice)},
		{"both the same", eight + square, tile(0, 2, "k", "k"), errors(api.ErrTwice)},
		{"no name outer", eight + square, tile(0, 0, "K", "l"), errors(api.ErrName)},
		{"no name inner", eight + square, tile(0, 0, "k", "L"), errors(api.ErrName)},
		{"size ahead of form", eight + "for i = 0 .. 3 { }", tile(0, 1001, "k", "l"), errors(api.ErrArg)},
		{"not tight", eight + "for i = 0 .. 3 { s: a[i] = 1; }", tile(0, 2, "k", "l"), errors(api.ErrForm)},
		{"outer not plain", eight + "for i = 0 .. min(3, 4) { for j = 0 .. 3 { } }", tile(0, 2, "k", "l"), errors(api.ErrForm)},
		{"inner not plain", eight + "for i = 0 .. 3 { for j = 0 .. (3)/2 { } }", tile(0, 2, "k", "l"), errors(api.ErrForm)},
		{"variable in Low", eight + "for i = 0 .. 3 { for j = i .. 3 { } }", tile(0, 2, "k", "l"), errors(api.ErrForm)},
		{"variable in High", eight + "for i = 0 .. 3 { for j = 0 .. 2 - i { } }", tile(0, 2, "k", "l"), errors(api.ErrForm)},
	})
	p := program(t, eight+square)
	for _, name := range noNames() {
		same(t, name, made(shape.Tile(p, 0, 2, name, "l")), errors(api.ErrName))
		same(t, name, made(shape.Tile(p, 0, 2, "k", name)), errors(api.ErrName))
	}
	wrong, right := outside(1, api.MaxCoef)
	for _, size := range wrong {
		same(t, "size", made(shape.Tile(p, 0, size, "k", "l")), errors(api.ErrArg))
	}
	for _, size := range right {
		_, e := shape.Tile(p, 0, size, "k", "l")
		same(t, "size", e, api.OK)
	}
}

// deep is a loop below so many loops, within as many steps in all.
func deep(around, all int, inner string) string {
	text := eight
	for i := range around {
		text += "for x" + string(rune('a'+i)) + " = 0 .. 0 { "
	}
	text += inner + strings.Repeat("} ", around)
	for i := strings.Count(text, "{") + strings.Count(text, ":"); i < all; i++ {
		text += "if 0 >= 0 { } "
	}
	return text
}

// P6.1: a result that is too deep, or has too many steps.
func TestLargeResults(t *testing.T) {
	const inner = "for i = 0 .. 1 { for j = 0 .. 1 { s: c[i, j] = 1; r: c[j, i] = 1; } } "
	for _, c := range []struct {
		around, all int
		do          do
		want        api.Errno
	}{
		{8, 12, strip(8, 2, "k"), api.OK},
		{9, 13, strip(9, 2, "k"), api.ErrLarge},
		{7, 11, tile(7, 2, "k", "l"), api.OK},
		{8, 12, tile(8, 2, "k", "l"), api.ErrLarge},
		{0, 299, strip(0, 2, "k"), api.OK},
		{0, 300, strip(0, 2, "k"), api.ErrLarge},
		{0, 298, tile(0, 2, "k", "l"), api.OK},
		{0, 299, tile(0, 2, "k", "l"), api.ErrLarge},
		{0, 297, cut(1, 1), api.OK},
		{0, 298, cut(1, 1), api.ErrLarge},
		{0, 300, reverse(0), api.ErrRule},
		{0, 300, shift(0, 1), api.OK},
	} {
		p := program(t, deep(c.around, c.all, inner))
		_, e := c.do(p)
		same(t, deep(c.around, c.all, inner), e, c.want)
	}
	const two = "for i = 0 .. 1 { s: a[i] = 1; r: b[i] = 1; } "
	_, e := shape.Split(program(t, deep(0, 299, two)), 0, 1)
	same(t, "Split", e, api.OK)
	_, e = shape.Split(program(t, deep(0, 300, two)), 0, 1)
	same(t, "Split", e, api.ErrLarge)
}
