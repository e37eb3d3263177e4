package syntax

import (
	"slices"
	"strings"
	"testing"

	"faas/api"
	"faas/lex"
)

// checkPrinted checks that the text of p is want, if that is not too long, and what P8.5 and P8.6 say about it.
func checkPrinted(t *testing.T, p api.Program, want string) {
	t.Helper()
	before := copied(p)
	s, err := Print(p)
	if !Same(p, before) {
		t.Errorf("%.300q: the program was changed", want)
	}
	if tokens, _, e := lex.Tokens(want); len(want) > mostBytes || len(tokens) > mostTokens || e == api.ErrLimit {
		if s != "" || err != api.ErrLimit {
			t.Errorf("%.300q: %.300q, %d", want, s, err)
		}
		return
	}
	if s != want || err != api.OK {
		t.Errorf("%.300q: %.300q, %d", want, s, err)
		return
	}
	q, at, err := Parse(s)
	again, e := Print(q)
	if !Same(p, q) || at != 0 || err != api.OK || again != s || e != api.OK {
		t.Errorf("%.300q: %v, %d, %d, %.300q, %d", s, q, at, err, again, e)
	}
}

// printed returns the text of the expression in a statement of its own.
func printed(t *testing.T, x *shape) string {
	t.Helper()
	s, err := Print(inMain(do(x)))
	if err != api.OK {
		t.Errorf("%v: %d", x, err)
	}
	s, begins := strings.CutPrefix(s, "func main() {\n\t")
	s, ends := strings.CutSuffix(s, ";\n}\n")
	if !begins || !ends {
		t.Errorf("%q", s)
	}
	return s
}

// P8.3: the layout.
func TestPrintLayout(t *testing.T) {
	a, b := aVar("a"), aVar("b")
	for _, c := range []struct {
		p    api.Program
		want string
	}{
		{api.Program{}, ""},
		{programOf(function{"f", nil, aBlock()}), "func f() {\n}\n"},
		{programOf(function{"f", []string{"a"}, aBlock()}), "func f(a) {\n}\n"},
		{programOf(function{"f", []string{"a", "b", "c"}, aBlock()}, function{"g", nil, aBlock(do(a))}), "func f(a, b, c) {\n}\nfunc g() {\n\ta;\n}\n"},
		{programOf(function{"main", []string{"e"}, aBlock(one(api.NdReturn, "", op("+", aVar("e"), op("*", anInt(1), anInt(2)))))}), "func main(e) {\n\treturn e + 1 * 2;\n}\n"},
		{inMain(one(api.NdLet, "a", anInt(1)), one(api.NdSet, "a", b), one(api.NdReturn, "", a), do(a)), "func main() {\n\tlet a = 1;\n\ta = b;\n\treturn a;\n\ta;\n}\n"},
		{inMain(one(api.NdIf, "", a, aBlock())), "func main() {\n\tif a {\n\t}\n}\n"},
		{inMain(one(api.NdIf, "", a, aBlock(), aBlock())), "func main() {\n\tif a {\n\t} else {\n\t}\n}\n"},
		{inMain(one(api.NdIf, "", a, aBlock(do(a), do(b)), aBlock(do(b))), do(a)), "func main() {\n\tif a {\n\t\ta;\n\t\tb;\n\t} else {\n\t\tb;\n\t}\n\ta;\n}\n"},
		{inMain(one(api.NdWhile, "", a, aBlock())), "func main() {\n\twhile a {\n\t}\n}\n"},
		{inMain(one(api.NdWhile, "", op("or", a, b), aBlock(one(api.NdIf, "", a, aBlock(one(api.NdLet, "a", b)), aBlock(one(api.NdWhile, "", b, aBlock())))))), "func main() {\n\twhile a or b {\n\t\tif a {\n\t\t\tlet a = b;\n\t\t} else {\n\t\t\twhile b {\n\t\t\t}\n\t\t}\n\t}\n}\n"},
		{inMain(one(api.NdIf, "", aMap(nil), aBlock(do(aMap(nil))))), "func main() {\n\tif {} {\n\t\t{};\n\t}\n}\n"},
	} {
		checkPrinted(t, c.p, c.want)
	}
}

// P8.3: the expressions.
func TestPrintExpressions(t *testing.T) {
	a, b, c := aVar("a"), aVar("b"), aVar("c")
	for want, x := range map[string]*shape{
		"null": one(api.NdNull, ""), "true": aBool(1), "false": aBool(0), "0": anInt(0), "1000000000000": anInt(greatestInt), "a": a, "a_1": aVar("a_1"),
		`""`: one(api.NdStr, ""), `"x y"`: one(api.NdStr, "x y"), `"\"\\"`: one(api.NdStr, `"\`), `"` + strings.Repeat(`\\`, 200) + `"`: one(api.NdStr, strings.Repeat(`\`, 200)), `"// ~"`: one(api.NdStr, "// ~"),
		"[]": one(api.NdList, ""), "[a]": one(api.NdList, "", a), "[a, b, c]": one(api.NdList, "", a, b, c), "[a or b]": one(api.NdList, "", op("or", a, b)),
		"{}": aMap(nil), `{"k": a}`: aMap([]string{"k"}, a), `{"": a, "k": b or c, "l": {}}`: aMap([]string{"", "k", "l"}, a, op("or", b, c), aMap(nil)), `{"!": a, "\"": b, "\\": c}`: aMap([]string{"!", `"`, `\`}, a, b, c),
		"f()": one(api.NdCall, "f"), "f(a)": one(api.NdCall, "f", a), "f(a, b or c)": one(api.NdCall, "f", a, op("or", b, c)),
		"@op()": one(api.NdHost, "op"), "@if(a)": one(api.NdHost, "if", a), "@op(a, b or c)": one(api.NdHost, "op", a, op("or", b, c)),
		"a[b]": one(api.NdIndex, "", a, b), "a[b][c]": one(api.NdIndex, "", one(api.NdIndex, "", a, b), c), "a[b or c]": one(api.NdIndex, "", a, op("or", b, c)), "(a or b)[c]": one(api.NdIndex, "", op("or", a, b), c), "(-a)[b]": one(api.NdIndex, "", one(api.NdUnary, "-", a), b), "(not a)[b]": one(api.NdIndex, "", one(api.NdUnary, "not", a), b), "[][{}]": one(api.NdIndex, "", one(api.NdList, ""), aMap(nil)), "f()[1]": one(api.NdIndex, "", one(api.NdCall, "f"), anInt(1)),
		"-a": one(api.NdUnary, "-", a), "--a": one(api.NdUnary, "-", one(api.NdUnary, "-", a)), "-a[b]": one(api.NdUnary, "-", one(api.NdIndex, "", a, b)), "-(not a)": one(api.NdUnary, "-", one(api.NdUnary, "not", a)), "-(a * b)": one(api.NdUnary, "-", op("*", a, b)),
		"not a": one(api.NdUnary, "not", a), "not not a": one(api.NdUnary, "not", one(api.NdUnary, "not", a)), "not -a": one(api.NdUnary, "not", one(api.NdUnary, "-", a)), "not a < b": one(api.NdUnary, "not", op("<", a, b)), "not a + b": one(api.NdUnary, "not", op("+", a, b)), "not (a and b)": one(api.NdUnary, "not", op("and", a, b)), "not (a or b)": one(api.NdUnary, "not", op("or", a, b)),
		"(not a) < b": op("<", one(api.NdUnary, "not", a), b), "a < (not b)": op("<", a, one(api.NdUnary, "not", b)), "not a and not b": op("and", one(api.NdUnary, "not", a), one(api.NdUnary, "not", b)), "a - -b": op("-", a, one(api.NdUnary, "-", b)), "-a * -b": op("*", one(api.NdUnary, "-", a), one(api.NdUnary, "-", b)), "(a < b) < (b < c)": op("<", op("<", a, b), op("<", b, c)), "a + b < b - c": op("<", op("+", a, b), op("-", b, c)), "a < b and b < c": op("and", op("<", a, b), op("<", b, c)),
	} {
		if s := printed(t, x); s != want {
			t.Errorf("%q, not %q", s, want)
		}
		checkPrinted(t, inMain(do(x)), "func main() {\n\t"+want+";\n}\n")
	}
}

// P8.3: each kind of expression in each place, with parentheses by the levels of the chapter.
func TestPrintParentheses(t *testing.T) {
	a, b := aVar("a"), aVar("b")
	var inner []*shape
	for _, o := range strings.Fields(allOperators) {
		inner = append(inner, op(o, a, b))
	}
	for _, o := range []string{"-", "not"} {
		inner = append(inner, one(api.NdUnary, o, a))
	}
	inner = append(inner, one(api.NdIndex, "", a, b), a, anInt(1), aBool(0), one(api.NdNull, ""), one(api.NdStr, "s"), one(api.NdList, "", a), aMap([]string{"k"}, a), one(api.NdCall, "f", a), one(api.NdHost, "f", a))
	for _, x := range inner {
		bare := printed(t, x)
		within := func(place int) string {
			if level(x) < place {
				return "(" + bare + ")"
			}
			return bare
		}
		for _, o := range strings.Fields(allOperators) {
			checkExpression(t, op(o, x, b), within(required[o][0])+" "+o+" b")
			checkExpression(t, op(o, b, x), "b "+o+" "+within(required[o][1]))
		}
		checkExpression(t, one(api.NdUnary, "-", x), "-"+within(7))
		checkExpression(t, one(api.NdUnary, "not", x), "not "+within(3))
		checkExpression(t, one(api.NdIndex, "", x, b), within(8)+"[b]")
		checkExpression(t, one(api.NdIndex, "", b, x), "b["+bare+"]")
		checkExpression(t, one(api.NdList, "", x, x), "["+bare+", "+bare+"]")
		checkExpression(t, aMap([]string{"k"}, x), `{"k": `+bare+`}`)
		checkExpression(t, one(api.NdCall, "f", x, x), "f("+bare+", "+bare+")")
		checkExpression(t, one(api.NdHost, "f", x), "@f("+bare+")")
		checkPrinted(t, inMain(one(api.NdLet, "a", x), one(api.NdSet, "a", x), one(api.NdReturn, "", x), do(x)), "func main() {\n\tlet a = "+bare+";\n\ta = "+bare+";\n\treturn "+bare+";\n\t"+bare+";\n}\n")
		checkPrinted(t, inMain(one(api.NdIf, "", x, aBlock()), one(api.NdWhile, "", x, aBlock())), "func main() {\n\tif "+bare+" {\n\t}\n\twhile "+bare+" {\n\t}\n}\n")
	}
}

func checkExpression(t *testing.T, x *shape, want string) {
	t.Helper()
	s := printed(t, x)
	if s != want {
		t.Errorf("%q, not %q", s, want)
	}
	checkPrinted(t, inMain(do(x)), "func main() {\n\t"+s+";\n}\n")
	// Without any of its parentheses around an operand, the text has another program or none.
	for i := range s {
		if s[i] != '(' || i > 0 && s[i-1] == 'f' {
			continue
		}
		end := i + strings.IndexByte(s[i:], ')')
		if p, _, err := Parse("func main() {" + s[:i] + " " + s[i+1:end] + " " + s[end+1:] + ";}"); err == api.OK && Same(p, inMain(do(x))) {
			t.Errorf("%q has needless parentheses", s)
		}
	}
}

// P8.3: the error of Check, and the limits of the text.
func TestPrintErrors(t *testing.T) {
	bad := programOf(function{"main", nil, aBlock(do(aVar("if")))})
	long := programOf(function{"main", slices.Repeat([]string{"a"}, 9), aBlock()})
	for i, c := range []struct {
		p    api.Program
		want api.Errno
	}{
		{bad, api.ErrSyntax}, {long, api.ErrLimit}, {api.Program{Nodes: bad.Nodes}, api.ErrSyntax}, {api.Program{Nodes: make([]api.Node, 601)}, api.ErrLimit},
	} {
		if s, err := Print(c.p); s != "" || err != c.want {
			t.Errorf("%d: %q, %d", i, s, err)
		}
	}
	// A statement of 203 bytes, with a tab and a line feed around it.
	big := do(one(api.NdStr, strings.Repeat("s", 200)))
	text := "func main() {\n" + strings.Repeat("\t\""+strings.Repeat("s", 200)+"\";\n", 19) + "\t"
	rest := mostBytes - len(text) - len("\"\";\n}\n")
	for n := rest - 1; n <= rest+1; n++ {
		p := inMain(append(slices.Repeat([]*shape{big}, 19), do(one(api.NdStr, strings.Repeat("r", n))))...)
		want := text + "\"" + strings.Repeat("r", n) + "\";\n}\n"
		checkPrinted(t, p, want)
		if s, err := Print(p); (err == api.OK) != (n <= rest) || len(s) > mostBytes || n == rest && len(s) != mostBytes {
			t.Errorf("%d: %d bytes, %d", n, len(s), err)
		}
	}
	// The function is 9 tokens, and each of 247 calls 4.
	call := do(one(api.NdCall, "f"))
	for _, c := range []struct {
		last   *shape
		tokens int
	}{{aVar("a"), 999}, {one(api.NdUnary, "-", aVar("a")), 1000}, {one(api.NdCall, "f"), 1001}, {one(api.NdCall, "f", aVar("a")), 1002}, {one(api.NdIndex, "", one(api.NdUnary, "-", aVar("a")), aVar("b")), 1005}} {
		p := programOf(function{"main", []string{"a", "b"}, aBlock(append(slices.Repeat([]*shape{call}, 247), do(c.last))...)})
		checkPrinted(t, p, "func main(a, b) {\n"+strings.Repeat("\tf();\n", 247)+"\t"+written(c.last, 1)+";\n}\n")
		if _, err := Print(p); (err == api.OK) != (c.tokens <= mostTokens) {
			t.Errorf("%d tokens: %d", c.tokens, err)
		}
	}
}

// P8.3: the text of a program with the longest parts, which is much too long, and of one that is as nested as possible.
func TestPrintExtremes(t *testing.T) {
	keys := []string{}
	values := []*shape{}
	for i := range 595 {
		keys = append(keys, strings.Repeat(`\`, 190)+string(rune(' '+i/90))+string(rune(' '+i%90)))
		values = append(values, one(api.NdStr, strings.Repeat(`"`, 200)))
	}
	checkPrinted(t, inMain(do(aMap(keys, values...))), "func main() {\n\t"+written(aMap(keys, values...), 1)+";\n}\n")
	inner, open, closed := aBlock(), "", ""
	for i := range 15 {
		inner = aBlock(one(api.NdWhile, "", aVar("a"), inner))
		open += strings.Repeat("\t", i+1) + "while a {\n"
		closed = strings.Repeat("\t", i+1) + "}\n" + closed
	}
	checkPrinted(t, programOf(function{"main", nil, inner}), "func main() {\n"+open+closed+"}\n")
	x, s := aVar("a"), "a"
	for range 29 {
		x, s = op("-", aVar("a"), x), "a - ("+s+")"
	}
	checkPrinted(t, inMain(do(x)), "func main() {\n\t"+strings.Replace(s, "(a)", "a", 1)+";\n}\n")
}
