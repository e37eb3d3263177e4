package eval

import (
	"fmt"
	"slices"
	"strings"
	"testing"

	"faas/api"
	"faas/syntax"
)

// parsed returns the program with this source.
func parsed(t *testing.T, s string) api.Program {
	t.Helper()
	p, at, err := syntax.Parse(s)
	if err != api.OK {
		t.Fatalf("%s: %d %d", s, at, err)
	}
	return p
}

// answered returns answers with these values; the text ! and a number stands for an error, ? for a value that is not valid.
func answered(t *testing.T, texts ...string) []api.Answer {
	t.Helper()
	var l []api.Answer
	for _, s := range texts {
		switch s[0] {
		case '!':
			var n int
			fmt.Sscan(s[1:], &n)
			l = append(l, api.Answer{Err: api.Errno(n)})
		case '?':
			l = append(l, api.Answer{Value: []api.Cell{{Kind: api.List, N: 1}}})
		default:
			l = append(l, api.Answer{Value: cells(t, s)})
		}
	}
	return l
}

// ran returns the outcome of a program with much fuel, as a text.
func ran(t *testing.T, source, event string, answers ...string) string {
	t.Helper()
	o, err := Run(parsed(t, source), cells(t, event), answered(t, answers...), mostFuel)
	if err != api.OK {
		t.Fatalf("%s: %d", source, err)
	}
	return told(o)
}

// mainOf returns a program whose main has this body.
func mainOf(body string) string { return "func main(e) { " + body + " }" }

// P10.5: each kind of node.
func TestNodes(t *testing.T) {
	for body, want := range map[string]string{
		"":                                 "value null []",
		"return null;":                     "value null []",
		"return true;":                     "value true []",
		"return false;":                    "value false []",
		"return 12;":                       "value 12 []",
		`return "a\"b";`:                   `value "a\"b" []`,
		`return "and";`:                    `value "and" []`,
		`return "or";`:                     `value "or" []`,
		"return e;":                        `value [5,6] []`,
		"return [];":                       "value [] []",
		"return [1, [e]];":                 "value [1,[[5,6]]] []",
		"return {};":                       "value {} []",
		"return -5;":                       "value -5 []",
		"return not false;":                "value true []",
		"return - -e[0];":                  "value 5 []",
		"return -true;":                    "error 7 []",
		"return not 1;":                    "error 7 []",
		"return e[1];":                     "value 6 []",
		"return e[2];":                     "error 2 []",
		`return e["a"];`:                   "error 7 []",
		"return e + e;":                    "value [5,6,5,6] []",
		"return 1 + null;":                 "error 7 []",
		"return 1 / 0;":                    "error 9 []",
		"return 1 < 2;":                    "value true []",
		"return e == [5,6];":               "value true []",
		`return {"a": 1, "b": e}["b"];`:    "value [5,6] []",
		`return {"a": 1}["b"];`:            "value null []",
		"return len(e);":                   "value 2 []",
		"return fail(e);":                  "error 20 []",
		`return put({}, "k", push(e, 7));`: `value {"k":[5,6,7]} []`,
		"return 1000000000000 + 1;":        "error 8 []",
		"let x = 1; let y = x + 1; x = y + 1; return [x, y];": "value [3,2] []",
		"e = 1; return e;":                                                  "value 1 []",
		"let x = e; x = push(x, 7); return e;":                              "value [5,6] []",
		"1; e; return 2;":                                                   "value 2 []",
		"fail(1); return 2;":                                                "error 20 []",
		"return 1; return 2;":                                               "value 1 []",
		"if true { return 1; } return 2;":                                   "value 1 []",
		"if false { return 1; } return 2;":                                  "value 2 []",
		"if true { return 1; } else { return 2; }":                          "value 1 []",
		"if false { return 1; } else { return 2; }":                         "value 2 []",
		"if true { } else { return 2; }":                                    "value null []",
		"if 1 { return 1; }":                                                "error 7 []",
		"if null { } else { }":                                              "error 7 []",
		"if 1 / 0 == 1 { }":                                                 "error 9 []",
		"let i = 0; while i < 5 { i = i + 1; } return i;":                   "value 5 []",
		"let i = 0; while i < 5 { i = i + 1; if i == 3 { return i; } }":     "value 3 []",
		"while false { return 1; }":                                         "value null []",
		"while e { return 1; }":                                             "error 7 []",
		"let i = 0; while i < 3 { let x = i; i = i + 1; x = 9; } return i;": "value 3 []",
		"let i = 0; while not (i == true) { i = true; fail(i); }":           "error 20 []",
		"let i = true; while i { i = 0; }":                                  "error 7 []",
		"while true { }":                                                    "error 15 []",
		"let s = \"x\"; while true { s = s + s; }":                          "error 3 []",
		"let l = [1]; while true { l = [l]; }":                              "error 3 []",
		`let l = {}; while true { l = {"a": l}; }`:                          "error 3 []",
		"let l = [1]; while true { l = l + l; }":                            "error 3 []",
	} {
		if got := ran(t, mainOf(body), "[5,6]"); got != want {
			t.Errorf("%s: %s, not %s", body, got, want)
		}
	}
}

// P10.5: and and or leave out the right operand if the left one decides.
func TestLogic(t *testing.T) {
	for body, want := range map[string]string{
		"true and true":      "value true []",
		"true and false":     "value false []",
		"false and true":     "value false []",
		"false and fail(1)":  "value false []",
		"true and fail(1)":   "error 20 []",
		"true and 1":         "error 7 []",
		"false and 1":        "value false []",
		"1 and true":         "error 7 []",
		"null and false":     "error 7 []",
		"true or fail(1)":    "value true []",
		"false or fail(1)":   "error 20 []",
		"true or 1":          "value true []",
		"false or 1":         "error 7 []",
		"0 or true":          "error 7 []",
		"false or true":      "value true []",
		"false or false":     "value false []",
		"fail(1) or true":    "error 20 []",
		"true and 1 / 0 < 1": "error 9 []",
		"(@now() == 1 or false) and @now() == 2 or @now() == 3": "value false [now[] now[] now[]]",
	} {
		if got := ran(t, mainOf("return "+body+";"), "null", "1", "3", "2"); got != want {
			t.Errorf("%s: %s, not %s", body, got, want)
		}
	}
}

// P10.5: calls bind their parameters, and have variables of their own.
func TestCalls(t *testing.T) {
	for s, want := range map[string]string{
		"func main(e) { return f(1, 2, 3); } func f(a, b, c) { return [c, b, a]; }":                                                                                       "value [3,2,1] []",
		"func f() { } func main(e) { return f(); }":                                                                                                                       "value null []",
		"func f(a) { a = 2; } func main(e) { let a = 1; f(a); return a; }":                                                                                                "value 1 []",
		"func f(a) { let b = a; return b + 1; } func main(e) { let b = 5; let c = f(b); return [b, c]; }":                                                                 "value [5,6] []",
		"func f(n) { if n == 0 { return 1; } return n * f(n - 1); } func main(e) { return f(10); }":                                                                       "value 3628800 []",
		"func f(a) { while true { if a > 3 { return a; } a = a + 1; } } func main(e) { return [f(1)]; }":                                                                  "value [4] []",
		"func f(a) { return fail(a); } func main(e) { f(1); return 1; }":                                                                                                  "error 20 []",
		"func even(n) { if n == 0 { return true; } return odd(n - 1); } func odd(n) { if n == 0 { return false; } return even(n - 1); } func main(e) { return even(9); }": "value false []",
		"func f(a, b) { return a - b; } func main(e) { return f(@now(), @now()); }":                                                                                       "value -2 [now[] now[]]",
		"func f(a) { return a; } func main(e) { return f(1) + f(2) * f(3); }":                                                                                             "value 7 []",
		"func main(e) { if e == 0 { return 0; } return main(0); }":                                                                                                        "value 0 []",
	} {
		if got := ran(t, s, "null", "1", "3"); got != want {
			t.Errorf("%s: %s, not %s", s, got, want)
		}
	}
}

// P10.5: MaxCalls calls may be active, that of main among them; the arguments are evaluated before.
func TestStack(t *testing.T) {
	source := "func f(n) { if n > 1 { return f(n - 1); } return \"end\"; } func main(e) { return f(e); }"
	if got := ran(t, source, fmt.Sprint(mostCalls-1)); got != `value "end" []` {
		t.Error(got)
	}
	if got := ran(t, source, fmt.Sprint(mostCalls)); got != "error 21 []" {
		t.Error(got)
	}
	source = "func f(n) { return f(@now()); } func main(e) { f(@now()); }"
	if got := ran(t, source, "1", listsOf("1", mostRequests)...); got != "error 21 ["+strings.TrimSpace(strings.Repeat("now[] ", mostCalls))+"]" {
		t.Error(got)
	}
	// Calls that have ended are not active.
	source = "func f(n) { return n; } func main(e) { let i = 0; while i < 100 { i = i + f(f(1)); } return f(f(f(i))); }"
	if got := ran(t, source, "1"); got != "value 100 []" {
		t.Error(got)
	}
}

func listsOf(s string, n int) []string { return slices.Repeat([]string{s}, n) }

// P10.5: a function with MaxParams parameters and MaxLocals variables.
func TestVariables(t *testing.T) {
	var params, values, body, names []string
	for i := range 32 {
		names = append(names, fmt.Sprint("v", i))
		if i < 8 {
			params = append(params, names[i])
			values = append(values, fmt.Sprint(i))
		} else {
			body = append(body, fmt.Sprintf("let v%d = %d;", i, i))
		}
	}
	source := "func f(" + strings.Join(params, ", ") + ") {" + strings.Join(body, "") + "return [" + strings.Join(names, ", ") + "]; } " + mainOf("return f("+strings.Join(values, ", ")+");")
	if got := ran(t, source, "null"); got != "value [0,1,2,3,4,5,6,7,8,9,10,11,12,13,14,15,16,17,18,19,20,21,22,23,24,25,26,27,28,29,30,31] []" {
		t.Error(got)
	}
}

// P10.5: requests, their answers, and the order of all operands.
func TestRequests(t *testing.T) {
	source := mainOf(`let x = @get("k"); return x + 1;`)
	for _, c := range []struct {
		answers []string
		want    string
	}{
		{nil, `waits [get["k"]]`},
		{[]string{"4"}, `value 5 [get["k"]]`},
		{[]string{"4", "5", "!3", "?"}, `value 5 [get["k"]]`},
		{[]string{`"4"`}, `error 7 [get["k"]]`},
		{[]string{"!12"}, `error 12 [get["k"]]`},
		{[]string{"!-1"}, `error -1 [get["k"]]`},
		{[]string{"!99"}, `error 99 [get["k"]]`},
		{[]string{"?"}, `error 13 [get["k"]]`},
	} {
		if got := ran(t, source, "null", c.answers...); got != c.want {
			t.Errorf("%v: %s, not %s", c.answers, got, c.want)
		}
	}
	for body, want := range map[string]string{
		"return [@now(), @now(), @now()];":                   "value [1,2,3] [now[] now[] now[]]",
		`return {"a": @now(), "b": @now()};`:                 `value {"a":1,"b":2} [now[] now[]]`,
		"return @now() - @now();":                            "value -1 [now[] now[]]",
		"return [7, 8, 9][@now()];":                          "value 8 [now[]]",
		"return @put(str(@now()), [@now()]);":                `value 3 [now[] now[] put["1",[2]]]`,
		"return push([@now()], @now());":                     "value [1,2] [now[] now[]]",
		"return 1 + null + @now();":                          "error 7 []",
		"return @now() / 0 + @now();":                        "error 9 [now[]]",
		`@log(@get("a")); @delete("b"); return @now();`:      `value 4 [get["a"] log[1] delete["b"] now[]]`,
		"while @now() < 3 { } return @now();":                "value 4 [now[] now[] now[] now[]]",
		"if @now() == 1 { @log(0); } else { @log(1); }":      "value null [now[] log[0]]",
		"if @now() == 2 { @log(0); } else { @log(1); }":      "value null [now[] log[1]]",
		`return @timer("t", @now(), @fetch("h", {"a": 1}));`: `value 3 [now[] fetch["h",{"a":1}] timer["t",1,2]]`,
		`@send("a", 1); @signal("b", 2); @secret("c"); @send("d", [3]); @send("e", {}); return 1;`: `waits [send["a",1] signal["b",2] secret["c"] send["d",[3]] send["e",{}]]`,
	} {
		if got := ran(t, mainOf(body), "null", "1", "2", "3", "4"); got != want {
			t.Errorf("%s: %s, not %s", body, got, want)
		}
	}
}

// P10.5: every value that is not valid makes the answer corrupt, unless it has an error.
func TestCorruptAnswers(t *testing.T) {
	p := parsed(t, mainOf("return @now();"))
	for _, b := range bad {
		o, err := Run(p, cells(t, "1"), []api.Answer{{Value: b.v}}, 100)
		if got := told(o); err != api.OK || got != "error 13 [now[]]" {
			t.Error(b.v, got, err)
		}
		o, err = Run(p, cells(t, "1"), []api.Answer{{Err: api.ErrDown, Value: b.v}}, 100)
		if got := told(o); err != api.OK || got != "error 22 [now[]]" {
			t.Error(b.v, got, err)
		}
	}
}

// P10.5: MaxRequests requests, and one more; the arguments of the last one are evaluated.
func TestMaxRequests(t *testing.T) {
	source := mainOf("let i = 0; while i < e { i = i + 1; @now(); } return i;")
	answers := listsOf("0", mostRequests+2)
	all := "[" + strings.TrimSpace(strings.Repeat("now[] ", mostRequests)) + "]"
	if got := ran(t, source, fmt.Sprint(mostRequests), answers...); got != fmt.Sprint("value ", mostRequests, " ", all) {
		t.Error(got)
	}
	if got := ran(t, source, fmt.Sprint(mostRequests), answers[:mostRequests-1]...); got != "waits "+all {
		t.Error(got)
	}
	if got := ran(t, source, fmt.Sprint(mostRequests+1), answers...); got != "error 3 "+all {
		t.Error(got)
	}
	if got := ran(t, source, fmt.Sprint(mostRequests+1), answers[:mostRequests]...); got != "error 3 "+all {
		t.Error(got)
	}
	source = mainOf("let i = 0; while i < 32 { i = i + 1; @now(); } @log(fail(1));")
	if got := ran(t, source, "0", answers...); got != "error 20 "+all {
		t.Error(got)
	}
}

// P10.5: the fuel that a program needs, to the unit.
func TestFuel(t *testing.T) {
	for source, need := range map[string]int{
		mainOf(""):                                       1,
		mainOf("return e;"):                              3,
		mainOf("e;"):                                     3,
		mainOf("let x = 1;"):                             3,
		mainOf("let x = 1; x = 2;"):                      5,
		mainOf("return -1;"):                             4,
		mainOf("return 1 + 2;"):                          5,
		mainOf("return [1, 2, []];"):                     6,
		mainOf(`return {"a": 1};`):                       4,
		mainOf("return [1][0];"):                         6,
		mainOf("return len([]);"):                        4,
		mainOf("return true and true;"):                  5,
		mainOf("return false and true;"):                 4,
		mainOf("return true or 1 + 1 == 2;"):             4,
		mainOf("if true { }"):                            4,
		mainOf("if false { }"):                           3,
		mainOf("if false { } else { 1; }"):               6,
		mainOf("while false { }"):                        3,
		mainOf("let i = 0; while i < 1 { i = i + 1; }"):  3 + 1 + 3 + 1 + 4 + 3,
		mainOf("let i = 0; while i < 2 { i = i + 1; }"):  3 + 1 + 3 + 1 + 4 + 3 + 1 + 4 + 3,
		mainOf("return @now();"):                         3,
		mainOf("return @log(1);"):                        4,
		mainOf("return f(1, 2);") + "func f(a, b) { }":   1 + 1 + 1 + 2 + 1,
		mainOf("return f(1);") + "func f(a) { a; a; }":   1 + 1 + 1 + 1 + 5,
		mainOf("return f();") + "func f() { return 1; }": 1 + 1 + 1 + 3,
	} {
		p := parsed(t, source)
		for fuel := 1; fuel < need+3; fuel++ {
			o, err := Run(p, cells(t, "1"), answered(t, "1"), fuel)
			if err != api.OK {
				t.Fatal(source, err)
			}
			if steps := o.Err == api.ErrSteps; steps != (fuel < need) || !o.Done || steps && o.Value != nil {
				t.Error(source, fuel, told(o))
			}
		}
	}
}

// P10.5: fuel is asked for before anything else, so that a request, or an error, needs the fuel for its node and operands only.
func TestFuelOrder(t *testing.T) {
	for _, c := range []struct {
		body string
		fuel int
		want string
	}{
		{"return @log(1);", 4, "waits [log[1]]"},
		{"return @log(1);", 3, "error 15 []"},
		{"return fail(1);", 4, "error 20 []"},
		{"return fail(1);", 3, "error 15 []"},
		{"return null + 1 / 0;", 7, "error 9 []"},
		{"return null + 1 / 0;", 6, "error 15 []"},
		{"if 1 { }", 3, "error 7 []"},
		{"if 1 { }", 2, "error 15 []"},
		{"return 1 and fail(1);", 4, "error 7 []"},
		{"return main(main(1));", 4, "error 15 []"},
	} {
		o, err := Run(parsed(t, mainOf(c.body)), cells(t, "1"), nil, c.fuel)
		if got := told(o); err != api.OK || got != c.want {
			t.Error(c.body, c.fuel, got, err)
		}
	}
}

// P10.5: the errors of Run, in their order.
func TestRunErrors(t *testing.T) {
	good, event := parsed(t, mainOf("return e;")), cells(t, "1")
	type program struct {
		p   api.Program
		err api.Errno
	}
	programs := []program{
		{api.Program{}, api.ErrNone},
		{api.Program{Nodes: []api.Node{{}}}, api.ErrSyntax},
		{api.Program{Nodes: make([]api.Node, 601)}, api.ErrLimit},
		{parsed(t, "func f() { }"), api.ErrNone},
		{parsed(t, "func main() { }"), api.ErrType},
		{parsed(t, "func len(a) { } func main(e) { }"), api.ErrExists},
		{parsed(t, mainOf("return x;")), api.ErrName},
	}
	for _, c := range programs {
		for _, fuel := range []int{-1, 0, 1, 100, mostFuel + 1} {
			for _, v := range [][]api.Cell{event, nil, bad[6].v} {
				if o, err := Run(c.p, v, nil, fuel); err != c.err || o.Done || o.Value != nil || o.Requests != nil || o.Err != api.OK {
					t.Error(c, v, fuel, o, err)
				}
			}
		}
	}
	for _, b := range bad {
		for _, fuel := range []int{-1, 0, 1, mostFuel, mostFuel + 1} {
			if o, err := Run(good, b.v, nil, fuel); err != b.err || told(o) != "waits []" {
				t.Error(b.v, fuel, o, err)
			}
		}
	}
	for _, fuel := range []int{-1 << 63, -1, 0, mostFuel + 1, 1<<63 - 1} {
		if o, err := Run(good, event, answered(t, "1"), fuel); err != api.ErrRange || told(o) != "waits []" {
			t.Error(fuel, o, err)
		}
	}
	for _, fuel := range []int{1, 2, 3, mostFuel} {
		want := "error 15 []"
		if fuel > 2 {
			want = "value 1 []"
		}
		if o, err := Run(good, event, nil, fuel); err != api.OK || told(o) != want {
			t.Error(fuel, o, err)
		}
	}
}

// P10.5: all fuel can be used, in a loop and by the nodes of a deep program.
func TestGreatestFuel(t *testing.T) {
	p := parsed(t, mainOf("let i = 0; while true { i = i + 1; }"))
	o, err := Run(p, cells(t, "1"), nil, mostFuel)
	if err != api.OK || told(o) != "error 15 []" {
		t.Error(told(o), err)
	}
	deep := mainOf("return "+strings.Repeat("[f(", 7)+"e"+strings.Repeat(")]", 7)+";") + "func f(a) { return a; }"
	if got := ran(t, deep, "1"); got != "value [[[[[[[1]]]]]]] []" {
		t.Error(got)
	}
	nots := "func main(e) { return f(e, 16); } func f(a, n) { if n > 2 { return f(" + strings.Repeat("not ", 26) + "a, n - 1); } return a; }"
	if got := ran(t, nots, "true"); got != "value true []" {
		t.Error(got)
	}
}

// R3: neither the program, the event nor the answers are changed or part of an outcome, and its lists share no memory.
func TestRunMemory(t *testing.T) {
	p := parsed(t, mainOf(`@put("a", e); @send("b", e); let x = @get("c"); @log(x); let y = @get("d"); return [e, x];`))
	q := parsed(t, mainOf(`@put("a", e); @send("b", e); let x = @get("c"); @log(x); let y = @get("d"); return [e, x];`))
	event, answers := cells(t, "[1,2]"), answered(t, "0", "1", "[3]", "3", "4")
	o, err := Run(p, event, answers, 1000)
	want := `value [[1,2],[3]] [put["a",[1,2]] send["b",[1,2]] get["c"] log[[3]] get["d"]]`
	if err != api.OK || told(o) != want || !syntax.Same(p, q) || shown(event) != "[1,2]" || shown(answers[2].Value) != "[3]" {
		t.Fatal(told(o), err)
	}
	spoil := func(v []api.Cell) {
		for i := range v {
			v[i] = api.Cell{Kind: api.Null}
		}
	}
	spoil(event)
	spoil(answers[2].Value)
	if told(o) != want {
		t.Error(told(o))
	}
	spoil(o.Requests[0].Args[1])
	spoil(o.Requests[3].Args[0])
	if got := told(o); got != `value [[1,2],[3]] [put["a",error 1] send["b",[1,2]] get["c"] log[error 1] get["d"]]` {
		t.Error(got)
	}
	for _, body := range []string{"return e;", "let x = e; return x;", "return f(e);"} {
		event := cells(t, "[1,2]")
		o, err := Run(parsed(t, mainOf(body)+"func f(a) { return a; }"), event, nil, 1000)
		spoil(event)
		if err != api.OK || told(o) != "value [1,2] []" {
			t.Error(body, told(o), err)
		}
	}
	answers = answered(t, "[3]", "[4]")
	o, err = Run(parsed(t, mainOf("let x = @get(1); @log(x); return x;")), cells(t, "1"), answers, 1000)
	spoil(answers[0].Value)
	if got := told(o); err != api.OK || got != "value [3] [get[1] log[[3]]]" {
		t.Error(got, err)
	}
	spoil(o.Value)
	if got := told(o); got != "value error 1 [get[1] log[[3]]]" {
		t.Error(got)
	}
}
