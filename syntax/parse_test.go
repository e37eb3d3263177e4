package syntax

import (
	"math/rand"
	"slices"
	"strings"
	"testing"

	"faas/api"
	"faas/lex"
)

// checkAccepted checks that Parse returns the program.
func checkAccepted(t *testing.T, s string, want api.Program) {
	t.Helper()
	p, at, err := Parse(s)
	if !Same(p, want) || at != 0 || err != api.OK {
		t.Errorf("%.300q: %v, %d, %d, not %v", s, p, at, err, want)
	}
}

// checkRejected checks that Parse returns nothing but the error and its offset.
func checkRejected(t *testing.T, s string, wantAt int, want api.Errno) {
	t.Helper()
	p, at, err := Parse(s)
	if p.Nodes != nil || p.Funcs != nil || at != wantAt || err != want {
		t.Errorf("%.300q: %v, %d, %d, not %d, %d", s, p, at, err, wantAt, want)
	}
}

func aVar(name string) *shape         { return one(api.NdVar, name) }
func anInt(n int) *shape              { return &shape{kind: api.NdInt, n: n} }
func aBool(n int) *shape              { return &shape{kind: api.NdBool, n: n} }
func do(x *shape) *shape              { return one(api.NdDo, "", x) }
func aBlock(l ...*shape) *shape       { return one(api.NdBlock, "", l...) }
func op(s string, a, b *shape) *shape { return one(api.NdBinary, s, a, b) }
func aMap(keys []string, l ...*shape) *shape {
	return &shape{kind: api.NdMap, keys: keys, kids: l}
}

// P8.2: the example, to the letter.
func TestParseExample(t *testing.T) {
	p, at, err := Parse("func main(e) { return e+1*2; }")
	want := api.Program{
		Nodes: []api.Node{
			{Kind: api.NdVar, Text: "e"}, {Kind: api.NdInt, Int: 1}, {Kind: api.NdInt, Int: 2}, {Kind: api.NdBinary, Text: "*", Kids: []int{1, 2}}, {Kind: api.NdBinary, Text: "+", Kids: []int{0, 3}},
			{Kind: api.NdReturn, Kids: []int{4}}, {Kind: api.NdBlock, Kids: []int{5}},
		},
		Funcs: []api.Func{{Name: "main", Params: []string{"e"}, Body: 6}},
	}
	if !Same(p, want) || len(p.Nodes) != 7 || at != 0 || err != api.OK {
		t.Error(p, at, err)
	}
	checkRejected(t, "func main(e) { return 1 < 2 < 3; }", 28, api.ErrSyntax)
}

// P8.2: functions and statements.
func TestParseStatements(t *testing.T) {
	a, b := aVar("a"), aVar("b")
	for s, want := range map[string]api.Program{
		"": {}, " // func\n": {},
		"func f(){}":                                   programOf(function{"f", nil, aBlock()}),
		"func f(a) {}":                                 programOf(function{"f", []string{"a"}, aBlock()}),
		"func f(a, b,a) {}":                            programOf(function{"f", []string{"a", "b", "a"}, aBlock()}),
		"func f(){}func f(){a;}func g(){}":             programOf(function{"f", nil, aBlock()}, function{"f", nil, aBlock(do(a))}, function{"g", nil, aBlock()}),
		"func main() { let a = b; }":                   inMain(one(api.NdLet, "a", b)),
		"func main() { a = b; }":                       inMain(one(api.NdSet, "a", b)),
		"func main() { return a; }":                    inMain(one(api.NdReturn, "", a)),
		"func main() { a; }":                           inMain(do(a)),
		"func main() { a == b; }":                      inMain(do(op("==", a, b))),
		"func main() { a==b; }":                        inMain(do(op("==", a, b))),
		"func main() { (a); }":                         inMain(do(a)),
		"func main() { a = b == a; }":                  inMain(one(api.NdSet, "a", op("==", b, a))),
		"func main() { if a {} }":                      inMain(one(api.NdIf, "", a, aBlock())),
		"func main() { if a {a;} else {} }":            inMain(one(api.NdIf, "", a, aBlock(do(a)), aBlock())),
		"func main() { if a {} if b {} else {a;} a; }": inMain(one(api.NdIf, "", a, aBlock()), one(api.NdIf, "", b, aBlock(), aBlock(do(a))), do(a)),
		"func main() { if a { if b {} else {} } }":     inMain(one(api.NdIf, "", a, aBlock(one(api.NdIf, "", b, aBlock(), aBlock())))),
		"func main() { while a { b; a; } }":            inMain(one(api.NdWhile, "", a, aBlock(do(b), do(a)))),
		// A brace where a statement or an expression begins is a map.
		"func main() { {}; }":                        inMain(do(aMap(nil))),
		"func main() { {\"k\": a}; }":                inMain(do(aMap([]string{"k"}, a))),
		"func main() { {}[a]; }":                     inMain(do(one(api.NdIndex, "", aMap(nil), a))),
		"func main() { if {} {} }":                   inMain(one(api.NdIf, "", aMap(nil), aBlock())),
		"func main() { if {} {} {}; }":               inMain(one(api.NdIf, "", aMap(nil), aBlock()), do(aMap(nil))),
		"func main() { while {} == {} { {}; } {}; }": inMain(one(api.NdWhile, "", op("==", aMap(nil), aMap(nil)), aBlock(do(aMap(nil)))), do(aMap(nil))),
	} {
		checkAccepted(t, s, want)
	}
}

// P8.2: expressions.
func TestParseExpressions(t *testing.T) {
	a, b, c := aVar("a"), aVar("b"), aVar("c")
	for s, want := range map[string]*shape{
		"null": one(api.NdNull, ""), "true": aBool(1), "false": aBool(0), "0": anInt(0), "12": anInt(12), "1000000000000": anInt(greatestInt), "a": a, "((a))": a,
		`""`: one(api.NdStr, ""), `"a\"\\ b"`: one(api.NdStr, `a"\ b`), `"(" `: one(api.NdStr, "("), `"func"`: one(api.NdStr, "func"), `"` + strings.Repeat("x", longestStr) + `"`: one(api.NdStr, strings.Repeat("x", longestStr)),
		"[]": one(api.NdList, ""), "[a]": one(api.NdList, "", a), "[a,b , [] ]": one(api.NdList, "", a, b, one(api.NdList, "")), "[(a)]": one(api.NdList, "", a),
		"{}": aMap(nil), `{"":a}`: aMap([]string{""}, a), `{"":a,"a":b,"aa":c,"b":a}`: aMap([]string{"", "a", "aa", "b"}, a, b, c, a), `{"A":a,"a":{"A":b}}`: aMap([]string{"A", "a"}, a, aMap([]string{"A"}, b)), `{"a":["b","a"],"b":"a"}`: aMap([]string{"a", "b"}, one(api.NdList, "", one(api.NdStr, "b"), one(api.NdStr, "a")), one(api.NdStr, "a")),
		`{"\"":a,"#":b}`: aMap([]string{`"`, "#"}, a, b), `{"[":a,"\\":b,"]":c}`: aMap([]string{"[", `\`, "]"}, a, b, c),
		"a()": one(api.NdCall, "a"), "a (b)": one(api.NdCall, "a", b), "a(b,c,1)": one(api.NdCall, "a", b, c, anInt(1)), "a(b(),b(c))": one(api.NdCall, "a", one(api.NdCall, "b"), one(api.NdCall, "b", c)),
		"@get()": one(api.NdHost, "get"), "@if(a)": one(api.NdHost, "if", a), "@func (a, b)": one(api.NdHost, "func", a, b), "@a(@b(a))": one(api.NdHost, "a", one(api.NdHost, "b", a)),
		"a[b]": one(api.NdIndex, "", a, b), "a[b][c]": one(api.NdIndex, "", one(api.NdIndex, "", a, b), c), "a[b[c]]": one(api.NdIndex, "", a, one(api.NdIndex, "", b, c)), "a(b)[c]": one(api.NdIndex, "", one(api.NdCall, "a", b), c), "[a][b]": one(api.NdIndex, "", one(api.NdList, "", a), b), "1[b]": one(api.NdIndex, "", anInt(1), b), "a[b or c]": one(api.NdIndex, "", a, op("or", b, c)), "(a + b)[c]": one(api.NdIndex, "", op("+", a, b), c),
		"-a": one(api.NdUnary, "-", a), "--a": one(api.NdUnary, "-", one(api.NdUnary, "-", a)), "-1": one(api.NdUnary, "-", anInt(1)), "-a[b]": one(api.NdUnary, "-", one(api.NdIndex, "", a, b)), "(-a)[b]": one(api.NdIndex, "", one(api.NdUnary, "-", a), b), "-(a + b)": one(api.NdUnary, "-", op("+", a, b)), "a - -b": op("-", a, one(api.NdUnary, "-", b)), "a--b": op("-", a, one(api.NdUnary, "-", b)), "-a-b": op("-", one(api.NdUnary, "-", a), b), "-a*-b": op("*", one(api.NdUnary, "-", a), one(api.NdUnary, "-", b)),
		"not a": one(api.NdUnary, "not", a), "not not a": one(api.NdUnary, "not", one(api.NdUnary, "not", a)), "not a == b": one(api.NdUnary, "not", op("==", a, b)), "(not a) == b": op("==", one(api.NdUnary, "not", a), b), "not a and b": op("and", one(api.NdUnary, "not", a), b), "a or not b": op("or", a, one(api.NdUnary, "not", b)), "a == (not b)": op("==", a, one(api.NdUnary, "not", b)), "not -a": one(api.NdUnary, "not", one(api.NdUnary, "-", a)), "-(not a)": one(api.NdUnary, "-", one(api.NdUnary, "not", a)), "not (a or b)": one(api.NdUnary, "not", op("or", a, b)),
		"(a < b) < c": op("<", op("<", a, b), c), "a < (b < c)": op("<", a, op("<", b, c)), "a < b and b < c": op("and", op("<", a, b), op("<", b, c)), "a or b and c": op("or", a, op("and", b, c)), "(a or b) and c": op("and", op("or", a, b), c),
	} {
		checkAccepted(t, "func main() { "+s+"; }", inMain(do(want)))
		checkAccepted(t, "func main() { ("+s+"); }", inMain(do(want)))
		checkAccepted(t, "func main() { let x = "+s+"; return "+s+"; }", inMain(one(api.NdLet, "x", want), one(api.NdReturn, "", want)))
		checkAccepted(t, "func main() { if "+s+" { "+s+"; } while "+s+" {} }", inMain(one(api.NdIf, "", want, aBlock(do(want))), one(api.NdWhile, "", want, aBlock())))
		checkAccepted(t, "func main() { [a, "+s+", f("+s+")]; }", inMain(do(one(api.NdList, "", a, want, one(api.NdCall, "f", want)))))
	}
}

// P8.2, P8.3: all pairs of binary operators, with and without parentheses.
func TestParsePairs(t *testing.T) {
	a, b, c := aVar("a"), aVar("b"), aVar("c")
	for _, x := range strings.Fields(allOperators) {
		for _, y := range strings.Fields(allOperators) {
			left, right := op(y, op(x, a, b), c), op(x, a, op(y, b, c))
			checkAccepted(t, "func main() { (a "+x+" b) "+y+" c; }", inMain(do(left)))
			checkAccepted(t, "func main() { a "+x+" (b "+y+" c); }", inMain(do(right)))
			bare := "func main() { a " + x + " b " + y + " c; }"
			switch {
			case levels[x] == 4 && levels[y] == 4:
				checkRejected(t, bare, 19+len(x), api.ErrSyntax)
			case levels[x] >= levels[y]:
				checkAccepted(t, bare, inMain(do(left)))
			default:
				checkAccepted(t, bare, inMain(do(right)))
			}
		}
	}
}

// P8.2: the offset of the first token with which no program continues.
func TestParseErrors(t *testing.T) {
	g := readGrammar()
	for s, at := range map[string]int{
		// Outside of functions.
		"a": 0, " ;": 1, "func": 4, "func ": 5, "func // f": 9, "func (": 5, "func func(){}": 5, "func 1(){}": 5, "func \"f\"(){}": 5, "func @f(){}": 5, "func f": 6, "func f{}": 6, "func f(": 7, "func f(,a){}": 7, "func f(a": 8, "func f(a,": 9, "func f(a,){}": 9, "func f(a b){}": 9, "func f(1){}": 7, "func f(if){}": 7, "func f(a;": 8, "func f()": 8, "func f();": 8, "func f() a": 9, "func f(){": 9, "func f(){}}": 10, "func f(){};": 10, "func f(){} func": 15, "func f(){} f(){}": 11, "func f(){} {}": 11, "func f(){} \"func\" g(){}": 11, "func f(){} @func g(){}": 11,
		// Statements.
		"func f(){ let": 13, "func f(){ let = 1;}": 14, "func f(){ let 1 = 1;}": 14, "func f(){ let if = 1;}": 14, "func f(){ let a;}": 15, "func f(){ let a == 1;}": 16, "func f(){ let a = ;}": 18, "func f(){ let a = 1}": 19, "func f(){ let a = 1, b = 2;}": 19, "func f(){ let a = b = 1;}": 20, "func f(){ a = ;}": 14, "func f(){ a = 1}": 15, "func f(){ a = 1": 15, "func f(){ a = b = 1;}": 16, "func f(){ (a) = 1;}": 14, "func f(){ a[0] = 1;}": 15, "func f(){ a() = 1;}": 14, "func f(){ 1 = 1;}": 12, "func f(){ null = 1;}": 15, "func f(){ -a = 1;}": 13, "func f(){ a + b = 1;}": 16,
		"func f(){ return;}": 16, "func f(){ return}": 16, "func f(){ return a}": 18, "func f(){ return a b;}": 19, "func f(){ return return a;}": 17, "func f(){ ;}": 10, "func f(){ a;;}": 12, "func f(){ a}": 11, "func f(){ a b;}": 12, "func f(){ else {}}": 10, "func f(){ func g(){}}": 10, "func f(){ a": 11, "func f(){ a;": 12,
		"func f(){ if": 12, "func f(){ if {}}": 15, "func f(){ if {}": 15, "func f(){ if a;}": 14, "func f(){ if a b;}": 15, "func f(){ if a {} else": 22, "func f(){ if a {} else if b {}}": 23, "func f(){ if a {} else b;}": 23, "func f(){ if a {} else {} else {}}": 26, "func f(){ if a {};}": 17, "func f(){ if (a) {": 18, "func f(){ if (a {}}": 16, "func f(){ if let a = 1 {}}": 13, "func f(){ while {}}": 18, "func f(){ while a": 17, "func f(){ while a;}": 17, "func f(){ while a {} else {}}": 21, "func f(){ {a;}}": 11, "func f(){ { let a = 1; }}": 12, "func f(){ {a}": 11,
		// Expressions.
		"func f(){ +a;}": 10, "func f(){ a+;}": 12, "func f(){ a+": 12, "func f(){ a*/b;}": 12, "func f(){ a*not b;}": 12, "func f(){ a==not b;}": 13, "func f(){ -not a;}": 11, "func f(){ a+not b;}": 12, "func f(){ not;}": 13, "func f(){ -;}": 11, "func f(){ not and a;}": 14, "func f(){ or a;}": 10, "func f(){ a or;}": 14, "func f(){ a and;}": 15, "func f(){ a not b;}": 12, "func f(){ a or or b;}": 15, "func f(){ a<b<c;}": 13, "func f(){ a==b!=c;}": 14, "func f(){ a<b+c<=d;}": 15, "func f(){ not a<b<c;}": 17, "func f(){ a<b and c<d<e;}": 21, "func f(){ [a<b, a<b<c];}": 19, "func f(){ a = = b;}": 14, "func f(){ a<;}": 12, "func f(){ a = <b;}": 14,
		"func f(){ ();}": 11, "func f(){ (a;}": 12, "func f(){ (a": 12, "func f(){ (a,b);}": 12, "func f(){ (a]": 12, "func f(){ a);}": 11, "func f(){ a];}": 11, "func f(){ a[];}": 12, "func f(){ a[b;}": 13, "func f(){ a[b,c];}": 13, "func f(){ a[b": 13, "func f(){ a[b)": 13, "func f(){ a:b;}": 11, "func f(){ [a,];}": 13, "func f(){ [,a];}": 11, "func f(){ [a b];}": 13, "func f(){ [a;": 12, "func f(){ [": 11, "func f(){ [a,": 13, "func f(){ f(a,);}": 14, "func f(){ f(,a);}": 12, "func f(){ f(a": 13, "func f(){ f(a b);}": 14, "func f(){ f(let);}": 12, "func f(){ @get;}": 14, "func f(){ @get": 14, "func f(){ @get[a];}": 14, "func f(){ @get(a,);}": 17, "func f(){ @get(": 15, "func f(){ a(b)(c);}": 14, "func f(){ 1(b);}": 11, "func f(){ null(b);}": 14, "func f(){ \"f\"(b);}": 13, "func f(){ 12ab;}": 12,
		// Maps.
		`func f(){ {a:b};}`: 11, `func f(){ {1:b};}`: 11, `func f(){ {"a"};}`: 14, `func f(){ {"a";`: 14, `func f(){ {"a" b};}`: 15, `func f(){ {"a"=b};}`: 14, `func f(){ {"a":};}`: 15, `func f(){ {"a":b,};}`: 17, `func f(){ {"a":b,c:d};}`: 17, `func f(){ {"a":b;}`: 16, `func f(){ {"a":b "b":c};}`: 17, `func f(){ {"a":b`: 16, `func f(){ {"a":b,`: 17, `func f(){ {,"a":b};}`: 11, `func f(){ {"a"+"b":c};}`: 14, `func f(){ {("a"):c};}`: 11, `func f(){ {null:c};}`: 11, `func f(){ {@a:c};}`: 11, `func f(){ {"":a, :c};}`: 17, `func f(){ {"a":b, z:c};}`: 18,
		`func f(){ {"a":b,"a":c};}`: 17, `func f(){ {"b":b,"a":c};}`: 17, `func f(){ {"a":b,"":c};}`: 17, `func f(){ {"aa":b,"a":c};}`: 18, `func f(){ {"a":b,"B":c};}`: 17, `func f(){ {"":b,"":c};}`: 16, `func f(){ {"a":b,"b":c,"b":d};}`: 23, `func f(){ {"a":b,"c":c,"b" !=`: 23, `func f(){ {"a":{"b":c,"b":d}};}`: 22, `func f(){ {"b":{"a":c},"a":d};}`: 23, `func f(){ {"b":["c","a"],"a" }`: 25, `func f(){ {"\"":a,"!":b};}`: 18, `func f(){ {"]":a,"\\":b};}`: 17, `func f(){ {"a":b,"a"`: 17, `func f(){ {"~":b,"{":c};}`: 17,
		`func f(){ {"` + strings.Repeat("~", 200) + `":b,"a":c};}`: 216,
	} {
		checkRejected(t, s, at, api.ErrSyntax)
		if _, _, err := lex.Tokens(s); err == api.OK && g.wantedOffset(s) != at {
			t.Errorf("%.300q: %d", s, g.wantedOffset(s))
		}
	}
}

// P8.2: the errors of lex.Tokens come first, then those of the grammar, and then those of the limits.
func TestParseOrderOfErrors(t *testing.T) {
	many := "func f(a,a,a,a,a,a,a,a,a) { "
	for _, c := range []struct {
		s   string
		at  int
		err api.Errno
	}{
		{"!", 0, api.ErrSyntax}, {"func f() { return 07; }", 18, api.ErrSyntax}, {"func f() { return 1000000000001; }", 18, api.ErrRange}, {"func f(" + strings.Repeat("n", 25) + ") {}", 7, api.ErrLimit}, {"func f() { @" + strings.Repeat("n", 25) + "(); }", 11, api.ErrLimit}, {"func f() { \"" + strings.Repeat("s", 201) + "\"; }", 11, api.ErrLimit}, {"func f() { \"a", 11, api.ErrSyntax}, {"func F() {}", 5, api.ErrSyntax},
		{strings.Repeat(" ", 4001), 0, api.ErrLimit}, {strings.Repeat(";", 1001), 1000, api.ErrLimit},
		{"; !", 2, api.ErrSyntax}, {"func func 1000000000001", 10, api.ErrRange}, {"func f(} 07", 9, api.ErrSyntax}, {"func f() { } } \"", 15, api.ErrSyntax}, {`func f() { {"b":a,"a":b}; } ` + strings.Repeat("n", 25), 28, api.ErrLimit}, {"func f() {" + strings.Repeat(" ", 4000), 0, api.ErrLimit},
		{strings.Repeat(";", 1000), 0, api.ErrSyntax}, {"func f() {" + strings.Repeat(" ", 3990), 4000, api.ErrSyntax},
		{many + "}", 0, api.ErrLimit}, {many + "; }", 28, api.ErrSyntax}, {many, 28, api.ErrSyntax}, {many + "a 1000000000001", 30, api.ErrRange}, {strings.Repeat("func f(){}", 17) + ";", 170, api.ErrSyntax}, {strings.Repeat("func f(){}", 17), 0, api.ErrLimit}, {"func f(){" + strings.Repeat("[", 32) + "a", 42, api.ErrSyntax}, {"func f(){a" + strings.Repeat("[a]", 300) + ")", 910, api.ErrSyntax},
	} {
		checkRejected(t, c.s, c.at, c.err)
	}
}

// P8.2: texts at the limits of a program, and behind them.
func TestParseLimits(t *testing.T) {
	for _, c := range []struct {
		s  string
		ok bool
	}{
		// 2 nodes for each statement, 1 for each block.
		{"func f(){" + strings.Repeat("a;", 299) + "}", true}, {"func f(){" + strings.Repeat("a;", 299) + "}func g(){}", true}, {"func f(){" + strings.Repeat("a;", 300) + "}", false}, {"func f(){" + strings.Repeat("a;", 299) + "}func g(){}func h(){}", false},
		{"func f(){[" + strings.Repeat("a,", 490) + "a];}", true}, {"func f(){" + strings.Repeat("-a;", 199) + "}func g(){}func h(){}", true}, {"func f(){" + strings.Repeat("-a;", 199) + "}func g(){a;}", false},
		{strings.Repeat("func f(){}", 16), true}, {strings.Repeat("func f(){}", 17), false}, {strings.Repeat("func f(){}", 166), false},
		{"func f(a,a,a,a,a,a,a,a){}", true}, {"func f(a,a,a,a,a,a,a,a,a){}", false}, {"func f(){}func f(a,a,a,a,a,a,a,a,a){}func f(){}", false},
		// A block and a statement are 2 of the levels.
		{"func f(){" + strings.Repeat("[", 30) + strings.Repeat("]", 30) + ";}", true}, {"func f(){" + strings.Repeat("[", 31) + strings.Repeat("]", 31) + ";}", false},
		{"func f(){" + strings.Repeat("-", 29) + "a;}", true}, {"func f(){" + strings.Repeat("-", 30) + "a;}", false}, {"func f(){" + strings.Repeat("not ", 29) + "a;}", true}, {"func f(){" + strings.Repeat("not ", 900) + "a;}", false}, {"func f(){a" + strings.Repeat("+a", 29) + ";}", true}, {"func f(){a" + strings.Repeat("+a", 30) + ";}", false}, {"func f(){a" + strings.Repeat("[a]", 29) + ";}", true}, {"func f(){a" + strings.Repeat("[a]", 30) + ";}", false},
		{"func f(){" + strings.Repeat("if a{", 15) + "a=a;" + strings.Repeat("}", 16), false}, {"func f(){" + strings.Repeat("if a{", 15) + strings.Repeat("}", 16), true}, {"func f(){" + strings.Repeat("if a{", 15) + "if a{}" + strings.Repeat("}", 16), false}, {"func f(){" + strings.Repeat("while a{", 14) + "a=-a;" + strings.Repeat("}", 15), true}, {"func f(){" + strings.Repeat("if a{}else{", 15) + strings.Repeat("}", 16), true}, {"func f(){}func g(){" + strings.Repeat("f(", 30) + "a" + strings.Repeat(")", 30) + ";}func h(){}", false},
		// Parentheses are no nodes.
		{"func f(){" + strings.Repeat("(", 490) + "a" + strings.Repeat(")", 490) + ";}", true},
	} {
		p, at, err := Parse(c.s)
		switch {
		case c.ok && (err != api.OK || at != 0 || Check(p) != api.OK || len(p.Nodes) == 0):
			t.Errorf("%.80q: %d, %d", c.s, at, err)
		case !c.ok && (err != api.ErrLimit || at != 0 || p.Nodes != nil || p.Funcs != nil):
			t.Errorf("%.80q: %d, %d", c.s, at, err)
		}
	}
}

// P8.2: all tokens behind many beginnings of programs, and behind those with which a program continues again all of them.
func TestParseContinuations(t *testing.T) {
	g := readGrammar()
	all := strings.Fields(`func let if else while return and or not null true false ( ) { } [ ] , ; : = == != < <= > >= + - * / % a 7 "k" "j" "l" @get`)
	for _, c := range []struct {
		beginning string
		more      int
	}{
		{"", 6}, {"func f ( a ) {", 3}, {"func f ( a , b", 3}, {"func f ( ) { return a", 2}, {"func f ( ) { return a <", 3}, {"func f ( ) { a < b + 1", 3}, {"func f ( ) { not", 2}, {"func f ( ) { a or", 2}, {"func f ( ) { -", 2}, {"func f ( ) { a [", 2}, {"func f ( ) { f ( a", 2}, {"func f ( ) { @put ( a ,", 2}, {"func f ( ) { [ a", 2}, {`func f ( ) { { "k" : a`, 3}, {`func f ( ) { { "k" : a ,`, 3}, {`func f ( ) { { "k" : { "k" : a } ,`, 2}, {"func f ( ) { if a { }", 3}, {"func f ( ) { if {", 3}, {"func f ( ) { while a {", 2}, {"func f ( ) { while a { }", 2}, {"func f ( ) { let a =", 2}, {"func f ( ) { a =", 2}, {"func f ( ) { let", 3}, {"func f ( ) { ( a < b )", 2}, {"func f ( ) { a ; }", 3},
	} {
		tokens, _, err := lex.Tokens(c.beginning)
		if err != api.OK {
			t.Fatal(c.beginning)
		}
		sets := g.start()
		for _, k := range tokens {
			sets, _ = g.read(sets, terminalOf(k))
		}
		checkContinuations(t, g, sets, c.beginning, all, c.more)
	}
}

// checkContinuations checks s, the text of the sets, and the texts that have up to so many more tokens.
func checkContinuations(t *testing.T, g *grammar, sets [][]item, s string, all []string, more int) {
	t.Helper()
	if g.isComplete(sets) {
		if p, at, err := Parse(s); at != 0 || err != api.OK || Check(p) != api.OK {
			t.Errorf("%q: %d, %d", s, at, err)
		}
	} else {
		checkRejected(t, s, len(s), api.ErrSyntax)
	}
	if more == 0 {
		return
	}
	for i, text := range all {
		longer := s + " " + text
		tokens, _, _ := lex.Tokens(longer)
		last := len(tokens) - 1
		next, ok := g.read(sets, terminalOf(tokens[last]))
		if ok && keyFault(tokens) > last {
			checkContinuations(t, g, next, longer, all, more-1)
			continue
		}
		checkRejected(t, longer, len(s)+1, api.ErrSyntax)
		// What follows does not matter.
		checkRejected(t, longer+" "+all[(i*7+len(s))%len(all)]+" ; }", len(s)+1, api.ErrSyntax)
	}
}

// P8.2, P8.3, P8.5, P8.6: random programs, whose nodes are known.
func TestParseRandom(t *testing.T) {
	r := rand.New(rand.NewSource(8))
	count := 0
	for range 3000 {
		w := &writer{Rand: r, deep: 2 + r.Intn(9)}
		funcs := w.program()
		want, s := programOf(funcs...), w.text()
		nesting := 0
		for _, f := range funcs {
			nesting = max(nesting, height(f.body))
		}
		p, at, err := Parse(s)
		switch {
		case len(s) > mostBytes || len(w.tokens) > mostTokens:
			if err != api.ErrLimit {
				t.Errorf("%.300q: %d, %d", s, at, err)
			}
		case len(want.Nodes) > mostNodes || nesting > mostNesting:
			checkRejected(t, s, 0, api.ErrLimit)
		default:
			count++
			if !Same(p, want) || at != 0 || err != api.OK || Check(p) != api.OK || Depth(p) != nesting {
				t.Errorf("%.300q: %v, %d, %d, not %v", s, p, at, err, want)
			}
			checkPrinted(t, want, wantedText(funcs))
			checkUnshared(t, p)
		}
		if t.Failed() {
			return
		}
	}
	if count < 2000 {
		t.Error(count)
	}
}

// P8.2: random programs with a token changed, removed, doubled or moved.
func TestParseDamaged(t *testing.T) {
	g := readGrammar()
	r := rand.New(rand.NewSource(82))
	all := strings.Fields(`func let if else while return and or not null true false ( ) { } [ ] , ; : = == != < <= > >= + - * / % a 7 "" "b" @get`)
	for range 3000 {
		w := &writer{Rand: r, deep: 2 + r.Intn(4)}
		w.program()
		if len(w.tokens) == 0 || len(w.tokens) > 200 {
			continue
		}
		i, j := r.Intn(len(w.tokens)), r.Intn(len(w.tokens))
		switch r.Intn(5) {
		case 0:
			w.tokens[i] = all[r.Intn(len(all))]
		case 1:
			w.tokens = slices.Delete(w.tokens, i, i+1)
		case 2:
			w.tokens = slices.Insert(w.tokens, i, all[r.Intn(len(all))])
		case 3:
			w.tokens[i], w.tokens[j] = w.tokens[j], w.tokens[i]
		case 4:
			w.tokens = w.tokens[:i]
		}
		s := w.text()
		if len(s) > mostBytes {
			continue
		}
		if at := g.wantedOffset(s); at >= 0 {
			checkRejected(t, s, at, api.ErrSyntax)
		} else if _, at, err := Parse(s); at != 0 || err != api.OK && err != api.ErrLimit {
			t.Errorf("%q: %d, %d", s, at, err)
		}
	}
}

// P8.2: any texts, which end with an offset of the text.
func TestParseAnyText(t *testing.T) {
	g := readGrammar()
	r := rand.New(rand.NewSource(28))
	pieces := []string{"func", "f", "(", ")", "{", "}", "\"", "\\", "@", "07", "9999999999999", "!", "\x00", "\xff", "// ", "\n", " ", "[", "]", ",", ";", "=", "-", "not"}
	for range 20000 {
		s := ""
		for range r.Intn(12) {
			s += pieces[r.Intn(len(pieces))]
		}
		p, at, err := Parse(s)
		_, wantAt, want := lex.Tokens(s)
		if want == api.OK {
			if wantAt = g.wantedOffset(s); wantAt >= 0 {
				want = api.ErrSyntax
			}
			wantAt = max(wantAt, 0)
		}
		if at != wantAt || err != want || err != api.OK && (p.Nodes != nil || p.Funcs != nil) {
			t.Errorf("%q: %v, %d, %d", s, p, at, err)
		}
	}
}

// checkUnshared checks that no two lists of p share memory.
func checkUnshared(t *testing.T, p api.Program) {
	t.Helper()
	want := copied(p)
	for _, n := range p.Nodes {
		_ = append(n.Kids, -1)
		_ = append(n.Keys, "!")
	}
	for _, f := range p.Funcs {
		_ = append(f.Params, "!")
	}
	if !Same(p, want) {
		t.Errorf("%v: lists share memory", want)
	}
}

func copied(p api.Program) api.Program {
	q := api.Program{Nodes: slices.Clone(p.Nodes), Funcs: slices.Clone(p.Funcs)}
	for i := range q.Nodes {
		q.Nodes[i].Kids, q.Nodes[i].Keys = slices.Clone(q.Nodes[i].Kids), slices.Clone(q.Nodes[i].Keys)
	}
	for i := range q.Funcs {
		q.Funcs[i].Params = slices.Clone(q.Funcs[i].Params)
	}
	return q
}
