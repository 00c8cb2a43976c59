package nest_test

import (
	"fmt"
	"strings"
	"testing"

	"warpbeam/api"
	"warpbeam/nest"
)

func TestReadForm(t *testing.T) {
	cases := []struct {
		text string
		want api.Form
	}{
		{"2*i - j + 3", form(3, "i", 2, "j", -1)},
		{"3 - j + 2*i", form(3, "i", 2, "j", -1)},
		{"2*i-j+3", form(3, "i", 2, "j", -1)},
		{" 2 * i\n-\nj # j goes\n+3#three", form(3, "i", 2, "j", -1)},
		{"#\xff\x00 any bytes * \r\n1", form(1)},
		{"i + i + i", form(0, "i", 3)},
		{"i - i", form(0)},
		{"i + 2*j - i - 3 + 4", form(1, "j", 2)},
		{"1 + 2 + 3", form(6)},
		{"5 - i - 5", form(0, "i", -1)},
		{"-i", form(0, "i", -1)},
		{"+i", form(0, "i", 1)},
		{"- 2*i", form(0, "i", -2)},
		{"-5", form(-5)},
		{"+5", form(5)},
		{"z + a + m", form(0, "a", 1, "m", 1, "z", 1)},
		{"1000001*i - 1000000*i", form(0, "i", 1)},
		{"9999999 - 9999999", form(0)},
		{"1000*i", form(0, "i", 1000)},
		{strings.Repeat("x", 41) + " - " + strings.Repeat("x", 41), form(0)},
		{strings.Repeat("x", 40), form(0, strings.Repeat("x", 40), 1)},
	}
	for _, c := range cases {
		f, at, e := nest.ReadForm(c.text)
		same(t, c.text, []any{f, at, e}, []any{c.want, 0, api.OK})
	}
}

// cut takes the mark out of a text, which stands before the first word that does not fit.
func cut(t *testing.T, marked string) (string, int) {
	t.Helper()
	at := strings.Index(marked, "^")
	if at < 0 || strings.Count(marked, "^") > 1 {
		t.Fatalf("%q has not one mark", marked)
	}
	return strings.Replace(marked, "^", "", 1), at
}

func TestReadFormSyntax(t *testing.T) {
	for _, marked := range []string{
		// Words are missing: the end of the string counts, not that of the last word.
		"^", "  ^", "# i^", " \n#\n^", "i +^", "i + ^", "2*^", "2 * # i\n ^", "-^",
		// Words that do not fit.
		"i ^j", "2 * ^3", "i^*2", "i ^* j", "2*i^*3", "- ^- i", "+^+i", "^*i", "^)", "i^)", "^(i)", "i ^, j", "i ^.. 3", "i ^>= 0", "^/", "2^/3", "i^;", "2^i", "2 ^2", "i ^= 1", "^<i>",
		"^for", "i + ^max", "2*^if", "^array", "2 * ^min",
		// Numbers end before what cannot belong to them.
		"0^1", "0^0*i", "0^0", "1234567^8", "i + 1234567^0", "1234567^89",
		// Bytes that begin no word.
		"^_a", "i^A", "i + ^$", "i^\t", "i ^\r\n", "^é", "i^.", "i ^\x00", "1 ^!=", "^'", "^&", "i^\x7f", "i ^\xff",
	} {
		text, want := cut(t, marked)
		f, at, e := nest.ReadForm(text)
		same(t, fmt.Sprintf("%q", marked), []any{f, at, e}, []any{api.Form{}, want, api.ErrSyntax})
	}
}

func TestReadFormErrors(t *testing.T) {
	cases := []struct {
		text string
		want api.Errno
	}{
		{"1000001", api.ErrArg},
		{"-1000001", api.ErrArg},
		{"9999999*i", api.ErrArg},
		{"1001*i", api.ErrArg},
		{"600*i + 600*i", api.ErrArg},
		{"600000 + 600000", api.ErrArg},
		{strings.Repeat("x", 41), api.ErrName},
		{"a+b+c+d+e+f+g+h+i+j+k+l+m", api.ErrLarge},
		{strings.Repeat(" ", api.MaxText) + "1", api.ErrLarge},
		{strings.Repeat("$", api.MaxText+1), api.ErrLarge},
	}
	for _, c := range cases {
		f, at, e := nest.ReadForm(c.text)
		same(t, short(c.text), []any{f, at, e}, []any{api.Form{}, 0, c.want})
	}
	f, at, e := nest.ReadForm(strings.Repeat(" ", api.MaxText-1) + "1")
	same(t, "longest", []any{f, at, e}, []any{form(1), 0, api.OK})
	f, at, e = nest.ReadForm("a+b+c+d+e+f+g+h+i+j+k+l+m-a")
	same(t, "what goes does not count", []any{len(f.Terms), at, e}, []any{12, 0, api.OK})
	f, at, e = nest.ReadForm("1000001 - 1")
	same(t, "the sum counts", []any{f, at, e}, []any{form(1000000), 0, api.OK})
}

func TestReadAsItIsNotWritten(t *testing.T) {
	cases := []struct{ text, want string }{
		{"array a[2];s:a[0]=1;", "array a[2];\ns: a[0] = 1;\n"},
		{"array\na\n[\n2\n]\n;\ns\n:\na\n[\n0\n]\n=\n1\n;", "array a[2];\ns: a[0] = 1;\n"},
		{"#one\narray#two\na#\n[2];#three\n##\ns: a[0] = 1; # four", "array a[2];\ns: a[0] = 1;\n"},
		{"array a[2];for i=0..9{}", "array a[2];\nfor i = 0 .. 9 {\n}\n"},
		{"for i=max(0,1)..min(2,3){if i>=0,1>=0{}}", "for i = max(0, 1) .. min(2, 3) {\n  if i >= 0, 1 >= 0 {\n  }\n}\n"},
		{"for i = (+0) / 2 .. (3 - 1) / 1000 { }", "for i = (0)/2 .. (2)/1000 {\n}\n"},
		{"array a[2]; s: a[1 - 1] = ((1));", "array a[2];\ns: a[0] = 1;\n"},
		{"array a[2]; s: a[0] = (1 + 2) + (3 * 4) * 5;", "array a[2];\ns: a[0] = 1 + 2 + 3 * 4 * 5;\n"},
		{"array a[2]; s: a[0] = (((a[1]) * (<1 + 1>)));", "array a[2];\ns: a[0] = a[1] * <2>;\n"},
		{"array a[2]; s: a[0] = 1-1-<-1>;", "array a[2];\ns: a[0] = 1 - 1 - <-1>;\n"},
		{"array for1[2]; fora: for1[0] = 1; iff: for1[0] = 1;", "array for1[2];\nfora: for1[0] = 1;\niff: for1[0] = 1;\n"},
		{"array a[2]; for i=0..1{for j=0-i..i+0{s:a[j]=<j+i>;}}", "array a[2];\nfor i = 0 .. 1 {\n  for j = -i .. i {\n    s: a[j] = <i + j>;\n  }\n}\n"},
		{"", ""},
		{" \n # nothing", ""},
	}
	for _, c := range cases {
		same(t, c.text, written(t, program(t, c.text)), c.want)
	}
}

// wrongTexts are wrong at the mark, each one for another reason.
func wrongTexts() []string {
	return []string{
		// Arrays.
		"array^", "array ^[2];", "array ^for[2];", "array ^2[2];", "array a^;", "array a[^];", "array a[^-1];", "array a[^i];", "array a[2^;", "array a[2,^];",
		"array a[2 ^3];", "array a[2]^", "array a[2] ^array b[2];", "array a[0^1];", "array a[1234567^8];", "array a[2]; s: a[0] = 1; ^array b[2];", "array a[2]; ^;", "^]", "^2", "^max", "^<",
		// Loops.
		"for^", "for ^1", "for ^if = 0 .. 1 { }", "for i ^0 .. 1 { }", "for i = ^.. 1 { }", "for i = 0 ^{ }", "for i = 0^. .1 { }", "for i = 0 ..^. 1 { }", "for i = 0 .. ^{ }",
		"for i = 0 .. 1 ^}", "for i = 0 .. 1 ^;", "for i = 0 .. 1 {^", "for i = 0 .. 1 { ^)", "for i = 0 .. 1 { } ^}", "for i = 0 .. 1 { ^array a[2]; }",
		// Bounds.
		"for i = ^min(0, 1) .. 1 { }", "for i = 0 .. ^max(0, 1) { }", "for i = max(0^) .. 1 { }", "for i = 0 .. min(1^) { }", "for i = max ^0 .. 1 { }", "for i = max(^, 1)", "for i = max(0, ^)", "for i = max(0, 1 ^.. 1 { }", "for i = max(0, ^max(1, 2)) .. 1 { }", "for i = max(0, 1 ^2)", "for i = max(0, 1, ^) .. 1 { }",
		"for i = (0)/^1 .. 1 { }", "for i = 0 .. (1)/^1 { }", "for i = max(0, (0)/^1) .. 1 { }",
		"for i = (0)/^0 .. 1 { }", "for i = 0 .. (1)/^0 { }", "for i = 0 .. min(2, (1)/^0) { }", "for i = 0 .. (1)/^01 { }", "for i = 0 .. (1)/^0 2 { }", "for i = 0 .. (1)/^00", "for i = 0 .. (1) / # by\n ^0",
		"for i = (0) ^.. 1 { }", "for i = (0^/2 .. 1 { }", "for i = ^/2 .. 1 { }", "for i = 0^/2 .. 1 { }", "for i = (0)/^-2 .. 1 { }", "for i = (0)/^j .. 1 { }",
		"for i = (^(0)/2)/2 .. 1 { }", "for i = (0)/2 ^+ 1 .. 1 { }", "for i = (0)/2^/2 .. 1 { }", "for i = ^) .. 1 { }",
		// Conditions.
		"if^", "if ^{ }", "if 0 ^{ }", "if 0 >= ^{ }", "if 0 >= ^1 { }", "if 0 >= ^i { }", "if 0 >= ^-0 { }", "if 0 >= 0^0 { }", "if 0 >= 0 ^", "if 0 >= 0, ^{ }", "if 0 >= 0^; { }", "if 0 ^> = 0 { }", "if 0 ^= 0 { }", "if 0 ^< 0 { }",
		"if 0 >= 0 {^", "if ^(0) >= 0 { }", "if 0 >= 0 { ^2", "if ^>= 0 { }",
		// Statements.
		"s^", "s^;", "s ^= 1;", "s: ^1", "s: ^for[0] = 1;", "s: a ^= 1;", "s: a[^] = 1;", "s: a[0,^] = 1;", "s: a[0 ^= 1;", "s: a[0]^;", "s: a[0] = ^;", "s: a[0] = 1^", "s: a[0] = 1 # ;\n ^", "s: a[0] = 1 ^}", "s: a[0] = 1;^;", "s: a[0] ^: 1;", "s: a[0] = 1 ^t: a[0] = 1;", "s: a[^(0)] = 1;", "s: a[0] ^[0] = 1;",
		// Expressions.
		"s: a[0] = ^-1;", "s: a[0] = ^+1;", "s: a[0] = 1 + ^;", "s: a[0] = 1 + ^+ 1;", "s: a[0] = 1 * ^-1;", "s: a[0] = ^* 1;", "s: a[0] = (^);", "s: a[0] = (1^;", "s: a[0] = (1^", "s: a[0] = 1^);", "s: a[0] = 1 ^(1);", "s: a[0] = 1 ^1;", "s: a[0] = 0^1;", "s: a[0] = 1234567^8;",
		"s: a[0] = b^;", "s: a[0] = b ^+ 1;", "s: a[0] = b[^];", "s: a[0] = b[0^;", "s: a[0] = <^>;", "s: a[0] = <0^;", "s: a[0] = <0^>= 1;", "s: a[0] = <^(0)>;", "s: a[0] = <0^, 0>;", "s: a[0] = 1 ^/ 2;", "s: a[0] = 2 * ^max;", "s: a[0] = 1 ^.. 2;", "s: a[0] = b[0] ^[0];", "s: a[0] = (1) ^<0>;", "s: a[0] = <0> ^<0>;", "s: a[0] = ^>;",
		// Bytes that begin no word.
		"^$", "array^$", "^\t", "array a[2];^\r\n", "^A", "array a^B[2];", "s: a[0] = ^\"1\";", "for i = 0 ^. 1", "^é", "^\x00", "s: a[0] = 1; # yes\n^\xff", "s: a[0] = ^!1;", "s: a[0] = 1 ^% 2;", "^_s: a[0] = 1;", "^\\",
	}
}

func TestReadSyntax(t *testing.T) {
	for _, marked := range wrongTexts() {
		text, want := cut(t, marked)
		p, at, e := nest.Read(text)
		same(t, fmt.Sprintf("%q", marked), []any{p, at, e}, []any{api.Program{}, want, api.ErrSyntax})
	}
}

// Wherever a text that is right ends too early, words are missing, or it is right, too.
func TestReadPartsOfAText(t *testing.T) {
	for i := range len(all) {
		_, at, e := nest.Read(all[:i])
		if e == api.ErrSyntax {
			same(t, all[:i], at, i-len(lastWord(all[:i])))
		}
	}
}

// lastWord is a part of a word at the end of a text that is none by itself.
func lastWord(s string) string {
	if strings.HasSuffix(s, ".") && !strings.HasSuffix(s, "..") || strings.HasSuffix(s, " >") {
		return s[len(s)-1:]
	}
	return ""
}

func TestReadErrorsOfChecks(t *testing.T) {
	long := strings.Repeat("x", 41)
	cases := []struct {
		text string
		want api.Errno
	}{
		{"array a[2]; s: a[i] = 1;", api.ErrRule},
		{"array a[2]; s: b[0] = 1;", api.ErrNone},
		{"array a[2]; s: a[0, 0] = 1;", api.ErrForm},
		{"array a[2]; s: a[0] = 1; s: a[0] = 1;", api.ErrTwice},
		{"array a[2]; array a[2];", api.ErrTwice},
		{"array a[0];", api.ErrArg},
		{"array a[20001];", api.ErrArg},
		{"array a[1, 1, 1, 1, 1];", api.ErrLarge},
		{"array a[200, 200];", api.ErrFull},
		{"array " + long + "[2];", api.ErrName},
		{"for " + long + " = 0 .. 1 { }", api.ErrName},
		{"array a[2]; " + long + ": a[0] = 1;", api.ErrName},
		{"for i = " + long + " .. 1 { }", api.ErrName},
		{"array a[2]; s: a[0] = 1000003;", api.ErrArg},
		{"array a[2]; s: a[0] = 9999999;", api.ErrArg},
		{"array a[2]; s: a[1000001] = 1;", api.ErrArg},
		{"for i = 0 .. (1)/1001 { }", api.ErrArg},
		{"for i = (1)/9999999 .. 1 { }", api.ErrArg},
		{"for i = max(0, 0, 0, 0, 0, 0, 0) .. 1 { }", api.ErrLarge},
		{"if 0 >= 0, 0 >= 0, 0 >= 0, 0 >= 0, 0 >= 0, 0 >= 0, 0 >= 0 { }", api.ErrLarge},
		{"for i = i .. 1 { }", api.ErrRule},
		{strings.Repeat("if 0 >= 0 { ", 13) + strings.Repeat("}", 13), api.ErrLarge},
		{strings.Repeat("if 0 >= 0 { }", 301), api.ErrLarge},
		{"array a[2]; s: a[0] = 1" + strings.Repeat(" + 1", 12) + ";", api.ErrLarge},
		{strings.Repeat(" ", api.MaxText+1), api.ErrLarge},
		{strings.Repeat("$", api.MaxText+1), api.ErrLarge},
	}
	for _, c := range cases {
		p, at, e := nest.Read(c.text)
		same(t, short(c.text), []any{p, at, e}, []any{api.Program{}, 0, c.want})
	}
	// What is wrong as a text goes before what is wrong as a program.
	_, at, e := nest.Read("array a[0]; s: b[i] = 9999999 }")
	same(t, "syntax first", []any{at, e}, []any{30, api.ErrSyntax})
	same(t, "longest", program(t, strings.Repeat("#", api.MaxText)), api.Program{})
	same(t, "just deep enough", len(program(t, strings.Repeat("if 0 >= 0 { ", 12)+strings.Repeat("}", 12)).Steps), 1)
	same(t, "many parentheses", written(t, program(t, "array a[2]; s: a[0] = "+strings.Repeat("(", 20_000)+"1"+strings.Repeat(")", 20_000)+";")), "array a[2];\ns: a[0] = 1;\n")
}
