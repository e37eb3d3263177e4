package compile

import (
	"slices"
	"strings"
	"testing"

	"faas/api"
	"faas/syntax"
)

// folded returns the expression that Fold makes of one.
func folded(t *testing.T, expr string) string {
	t.Helper()
	p := parsed(t, mainOf("let x = e; return "+expr+";"))
	checkAll(t, p)
	q, err := Fold(p)
	s, err2 := syntax.Print(q)
	s, isProper := strings.CutPrefix(s, "func main(e) {\n\tlet x = e;\n\treturn ")
	s, isEnded := strings.CutSuffix(s, ";\n}\n")
	if err != api.OK || err2 != api.OK || !isProper || !isEnded {
		t.Fatal(expr, q, err, err2)
	}
	return s
}

// P12.4: what is replaced.
func TestFold(t *testing.T) {
	long, longer := `"`+strings.Repeat("a", 100)+`"`, `"`+strings.Repeat("b", 101)+`"`
	for expr, want := range map[string]string{
		"1 + 2 * 3":                           "7",
		"1 - 3":                               "-2",
		"-(2 - 5)":                            "3",
		"3 - 3":                               "0",
		"7 / 2":                               "3",
		"-7 / 2":                              "-4",
		"-7 % 2":                              "1",
		"7 % -2":                              "-1",
		"-0":                                  "0",
		"- -5":                                "5",
		"- - -5":                              "-5",
		"- -0":                                "0",
		"-5 + 5":                              "0",
		"-5 - 5":                              "-10",
		"1000000000000 - 1":                   "999999999999",
		"-1000000000000 + 2000000 * 500000":   "0",
		"0 - 1000000000000":                   "-1000000000000",
		`"a" + "b"`:                           `"ab"`,
		`"" + ""`:                             `""`,
		`"q\"" + "\\"`:                        `"q\"\\"`,
		long + "+" + long:                     `"` + strings.Repeat("a", 200) + `"`,
		"1 < 2":                               "true",
		"2 <= 1":                              "false",
		"-1 > -2":                             "true",
		"-1 >= 0":                             "false",
		`"a" < "b"`:                           "true",
		`"b" <= ""`:                           "false",
		`"B" > "a"`:                           "false",
		`"a" >= "a"`:                          "true",
		"1 == 1":                              "true",
		"0 == -0":                             "true",
		"1 != 1":                              "false",
		`1 == "1"`:                            "false",
		"null == null":                        "true",
		"null != false":                       "true",
		"true == true":                        "true",
		"not true":                            "false",
		"not false":                           "true",
		"not not 1 < 2":                       "true",
		"not (1 == 2)":                        "true",
		"true and true":                       "true",
		"true and false":                      "false",
		"false and true":                      "false",
		"false and false":                     "false",
		"true or true":                        "true",
		"true or false":                       "true",
		"false or true":                       "true",
		"false or false":                      "false",
		"false and 1":                         "false",
		"false and null":                      "false",
		"true or 1":                           "true",
		`true or "a"`:                         "true",
		"false and -1":                        "false",
		"1 < 2 and 2 < 3":                     "true",
		"1 == 2 or 2 > 3 or not true":         "false",
		"1 + 2 + x":                           "3 + x",
		"x + (1 + 2)":                         "x + 3",
		"[1 + 2, [2 * 3], {\"a\": -(1 - 2)}]": `[3, [6], {"a": 1}]`,
		"x[1 + 1]":                            "x[2]",
		"(1 + 1)[x]":                          "2[x]",
		`"a"["b" + "c"]`:                      `"a"["bc"]`,
		`len("a" + "b")`:                      `len("ab")`,
		`@get("a" + str(1 + 1))`:              `@get("a" + str(2))`,
		"main(1 - 2)":                         "main(-1)",
		"-(1 < 2)":                            "-true",
		"not (1 + 2)":                         "not 3",
		"1 / (1 - 1)":                         "1 / 0",
		"(1 + 1) / (0 / 5) + 2 * 2":           "2 / 0 + 4",
		"(1 < 2) < 3":                         "true < 3",
		"true and (1 + 1)":                    "true and 2",
		"x and (1 < 2)":                       "x and true",
		"1 < 2 and x":                         "true and x",
		"1 == [1 + 1]":                        "1 == [2]",
	} {
		if got := folded(t, expr); got != want {
			t.Errorf("%s becomes %s, not %s", expr, got, want)
		}
	}
	for _, expr := range []string{"1", "-5", "null", "true", `"a"`, "x", "[]", "{}", "-x", "not x", "1 + x", "x + 1", "x + 1 + 2", "x - x", "x == x", "1 / 0", "0 % 0", "1 / 0 + 1", "-(1 / 0)", "1 / 0 == 1 / 0",
		"-true", "-null", `-"a"`, "not 0", "not null", `not ""`, "not -5", `-"1"`, "1 + null", `1 + "a"`, `"a" + 1`, `"a" - "a"`, "true + true", "1 < null", "true < false", "null <= null", `1 < "1"`, `"a" * 2`,
		"1000000000000 + 1", "-1000000000000 - 1", "1000000000000 * -2", long + " + " + longer,
		"true and 1", "true and null", "false or 0", `false or "a"`, "1 and true", "0 and false", "null or true", `"" or true`, "1 or 1", "-1 and true",
		"false and x", "true or x", "x and false", "x or true", "true and x", "false and 1 / 0", "true or -true",
		"len(\"ab\")", "int(\"1\")", "@now()", "[1] + [2]", "[1] == [1]", "{} == {}", "[1, 2][0]", "not [true][0]"} {
		if got := folded(t, expr); got != expr {
			t.Errorf("%s becomes %s", expr, got)
		}
	}
}

// P12.4: statements and functions remain; the operators within them are replaced, and the nodes come in their order again.
func TestFoldProgram(t *testing.T) {
	p := parsed(t, `
		func f(a, b) { let x = 1 + 1; x = 2 - 3; if 1 < 2 { x; } return x; }
		func main(e) { 1 + 1; if not true { } else { while 1 == 2 { e = "a" + "b"; } } f(1, -(1 + 1)); return e[0 * 1]; }`)
	want := parsed(t, `
		func f(a, b) { let x = 2; x = -1; if true { x; } return x; }
		func main(e) { 2; if false { } else { while false { e = "ab"; } } f(1, -2); return e[0]; }`)
	got, err := Fold(p)
	if err != api.OK || !syntax.Same(got, want) {
		t.Errorf("%v %d, not %v", got, err, want)
	}
	checkAll(t, p)

	p = parsed(t, "func main(e) { return e + (1 - 3); }")
	got, err = Fold(p)
	nodes := []api.Node{
		{Kind: api.NdVar, Text: "e"}, {Kind: api.NdInt, Int: 2}, {Kind: api.NdUnary, Text: "-", Kids: []int{1}},
		{Kind: api.NdBinary, Text: "+", Kids: []int{0, 2}}, {Kind: api.NdReturn, Kids: []int{3}}, {Kind: api.NdBlock, Kids: []int{4}},
	}
	if !syntax.Same(got, api.Program{Nodes: nodes, Funcs: []api.Func{{Name: "main", Params: []string{"e"}, Body: 5}}}) || err != api.OK {
		t.Error(got, err)
	}
}

// P12.4, P12.7: all operators with all pairs of some constants, alone and within others.
func TestFoldAll(t *testing.T) {
	constants := []string{"null", "true", "false", "0", "1", "-1", "2", "-2", "7", "1000000000000", "-1000000000000", "1000000", `""`, `"a"`, `"b"`, `"1"`, `"` + strings.Repeat("s", 100) + `"`, `"` + strings.Repeat("t", 101) + `"`}
	operators := []string{"and", "or", "+", "-", "*", "/", "%", "==", "!=", "<", "<=", ">", ">="}
	folds := 0
	for _, a := range constants {
		for _, op := range []string{"-", "not ", "- -", "not not ", "not -"} {
			folds += foldsOf(t, op+a)
		}
		for _, b := range constants {
			for _, op := range operators {
				folds += foldsOf(t, a+" "+op+" "+b)
				folds += foldsOf(t, "-("+a+" "+op+" "+b+") == [not ("+b+" "+op+" "+a+")]")
			}
		}
	}
	if folds < 3000 {
		t.Error(folds)
	}
}

// foldsOf returns by how many nodes the program that returns an expression becomes smaller, which it checks.
func foldsOf(t *testing.T, expr string) int {
	t.Helper()
	p := parsed(t, mainOf("return "+expr+";"))
	checkAll(t, p)
	q, _ := Fold(p)
	return len(p.Nodes) - len(q.Nodes)
}

// P12.4, P12.7: deep and wide programs become as small as they can.
func TestFoldMuch(t *testing.T) {
	for expr, want := range map[string]string{
		strings.Repeat("- ", 28) + "1":                              "1",
		strings.Repeat("not ", 27) + "true":                         "false",
		strings.Repeat("(1 + ", 28) + "1" + strings.Repeat(")", 28): "29",
		"1" + strings.Repeat(" - 1", 28):                            "-27",
		"true" + strings.Repeat(" and true", 28):                    "true",
		"[" + commas(64, "1 + 1") + "]":                             "[" + commas(64, "2") + "]",
	} {
		if got := folded(t, expr); got != want {
			t.Errorf("%s becomes %s, not %s", expr, got, want)
		}
	}
	p := parsed(t, mainOf(strings.Repeat("1 + 1 * 2; ", 99)))
	q, err := Fold(p)
	want := parsed(t, mainOf(strings.Repeat("3; ", 99)))
	if err != api.OK || !syntax.Same(q, want) {
		t.Error(q, err)
	}
	checkAll(t, p)
}

// R3: what Fold does not replace is copied, too.
func TestFoldCopies(t *testing.T) {
	p := parsed(t, mainOf(`return {"a": [e], "b": f(e)};`)+" func f(a) { return a; }")
	before := copyProgram(p)
	q, err := Fold(p)
	if err != api.OK || !syntax.Same(p, q) {
		t.Fatal(q, err)
	}
	for i := range q.Nodes {
		for k := range q.Nodes[i].Keys {
			q.Nodes[i].Keys[k] = "?"
		}
		clear(q.Nodes[i].Kids)
	}
	q.Funcs[0].Params[0] = "?"
	if !syntax.Same(p, before) || slices.Contains(p.Funcs[0].Params, "?") {
		t.Error(p)
	}
}
