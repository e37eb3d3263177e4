package compile

import (
	"fmt"
	"slices"
	"strings"
	"testing"

	"faas/api"
	"faas/code"
)

// listed returns the instructions of c without their indices.
func listed(t *testing.T, c api.Code) string {
	t.Helper()
	lines, err := code.Format(c)
	if err != api.OK {
		t.Fatal(err)
	}
	var l []string
	for _, s := range lines {
		if first, rest, _ := strings.Cut(s, " "); first != "func" {
			l = append(l, rest)
		}
	}
	return strings.Join(l, "; ")
}

// P12.1: each row of the table, with empty and other blocks; all others follow in checkAll.
func TestTranslations(t *testing.T) {
	for body, want := range map[string]string{
		"":                                   "",
		"return e;":                          "load 0; return",
		"return null;":                       "null; return",
		"return true;":                       "bool 1; return",
		"return false;":                      "bool 0; return",
		"return 0;":                          "int 0; return",
		"return 1000000000000;":              "int 1000000000000; return",
		`return "";`:                         `str ""; return`,
		`return "not";`:                      `str "not"; return`,
		"return [];":                         "list 0; return",
		"return [e, [1, null]];":             "load 0; int 1; null; list 2; list 2; return",
		"return {};":                         "map 0; return",
		`return {"a": e, "and": {"or": 1}};`: `load 0; int 1; map 1 "or"; map 2 "a" "and"; return`,
		"return -e;":                         "load 0; unary -; return",
		"return not e;":                      "load 0; unary not; return",
		"return -5;":                         "int 5; unary -; return",
		"return e + 1 * 2;":                  "load 0; int 1; int 2; binary *; binary +; return",
		"return e - 1 - 2;":                  "load 0; int 1; binary -; int 2; binary -; return",
		"return (e / 1) % 2 == 3;":           "load 0; int 1; binary /; int 2; binary %; int 3; binary ==; return",
		"return [e < 1, e <= 1, e > 1, e >= 1, e != 1];": "load 0; int 1; binary <; load 0; int 1; binary <=; load 0; int 1; binary >; load 0; int 1; binary >=; load 0; int 1; binary !=; list 5; return",
		"return e and 1;":                     "load 0; test; dup; false 7; pop; int 1; test; return",
		"return e or 1;":                      "load 0; test; dup; unary not; false 8; pop; int 1; test; return",
		"return e and 1 and 2;":               "load 0; test; dup; false 7; pop; int 1; test; test; dup; false 13; pop; int 2; test; return",
		"return e and (1 or -2);":             "load 0; test; dup; false 15; pop; int 1; test; dup; unary not; false 14; pop; int 2; unary -; test; test; return",
		"return (e and 1) or 2;":              "load 0; test; dup; false 7; pop; int 1; test; test; dup; unary not; false 14; pop; int 2; test; return",
		"return e[1];":                        "load 0; int 1; index; return",
		"return e[0][e[1]];":                  "load 0; int 0; index; load 0; int 1; index; index; return",
		"return len(e);":                      "load 0; built 1 len; return",
		"return put(e, \"k\", 1);":            `load 0; str "k"; int 1; built 3 put; return`,
		"return main(e);":                     "load 0; call 0; return",
		"return @now();":                      "host 0 now; return",
		"@put(\"k\", e);":                     `str "k"; load 0; host 2 put; pop`,
		"return @timer(1, 2, main(e));":       "int 1; int 2; load 0; call 0; host 3 timer; return",
		"let x = e;":                          "load 0; store 1",
		"let x = e; let y = x; x = y; e = x;": "load 0; store 1; load 1; store 2; load 2; store 1; load 1; store 0",
		"if e { let x = 1; } let x = 2; x;":   "load 0; false 4; int 1; store 1; int 2; store 2; load 2; pop",
		"e;":                                  "load 0; pop",
		"1; 2;":                               "int 1; pop; int 2; pop",
		"if e { }":                            "load 0; false 2",
		"if e { 1; }":                         "load 0; false 4; int 1; pop",
		"if e { } else { }":                   "load 0; false 3; jump 3",
		"if e { 1; } else { }":                "load 0; false 5; int 1; pop; jump 5",
		"if e { } else { 2; }":                "load 0; false 3; jump 5; int 2; pop",
		"if e { 1; } else { 2; } 3;":          "load 0; false 5; int 1; pop; jump 7; int 2; pop; int 3; pop",
		"if e { 1; } else { if e { 2; } else { 3; } }": "load 0; false 5; int 1; pop; jump 12; load 0; false 10; int 2; pop; jump 12; int 3; pop",
		"if e and 1 { 2; }":                            "load 0; test; dup; false 7; pop; int 1; test; false 10; int 2; pop",
		"while e { }":                                  "load 0; false 3; jump 0",
		"1; while e { 2; } 3;":                         "int 1; pop; load 0; false 7; int 2; pop; jump 2; int 3; pop",
		"while e { while 1 { 2; } }":                   "load 0; false 8; int 1; false 7; int 2; pop; jump 2; jump 0",
		"while e { if 1 { return 2; } }":               "load 0; false 7; int 1; false 6; int 2; return; jump 0",
		"while e or 1 { }":                             "load 0; test; dup; unary not; false 8; pop; int 1; test; false 10; jump 0",
		"return 1; 2;":                                 "int 1; return; int 2; pop",
	} {
		p := parsed(t, mainOf(body))
		c, err := Program(p)
		if want != "" {
			want += "; "
		}
		if want += "null; return"; err != api.OK || listed(t, c) != want {
			t.Errorf("%s: %d %s, not %s", body, err, listed(t, c), want)
		}
		checkAll(t, p)
	}
}

// P12.1, P12.2, P12.3: the examples of the chapter.
func TestExamples(t *testing.T) {
	p := parsed(t, "func main(e) { return e; }")
	c, err := Program(p)
	want := api.Code{
		Funcs: []api.CodeFunc{{Name: "main", Params: 1, Locals: 1, Entry: 0, End: 4}},
		Ins:   []api.Ins{{Op: api.OpLoad}, {Op: api.OpReturn}, {Op: api.OpNull}, {Op: api.OpReturn}},
	}
	if err != api.OK || !code.Same(c, want) {
		t.Error(c, err)
	}
	if n, err := Length(p); n != 4 || err != api.OK {
		t.Error(n, err)
	}
	p = parsed(t, "func f(a, b) { a and b; } func main(e) { }")
	ins, err := Function(p, 0, 0)
	and := []api.Ins{{Op: api.OpLoad}, {Op: api.OpTest}, {Op: api.OpDup}, {Op: api.OpFalse, A: 7}, {Op: api.OpPop}, {Op: api.OpLoad, A: 1}, {Op: api.OpTest}}
	if err != api.OK || !sameInstructions(ins[:7], and) {
		t.Error(ins, err)
	}
	p = parsed(t, "func main(e) { while e { if e { 5; } else { e = e or e; } } }")
	low, err := Function(p, 0, 0)
	high, err2 := Function(p, 0, 10)
	if err != api.OK || err2 != api.OK || len(low) != len(high) {
		t.Fatal(low, err, high, err2)
	}
	targets := 0
	for i := range low {
		if low[i].Op == api.OpJump || low[i].Op == api.OpFalse {
			targets++
			low[i].A += 10
		}
	}
	if targets != 5 || !sameInstructions(low, high) {
		t.Error(targets, low, high)
	}
}

// P12.1, P12.5: names, parameters, variables and places of several functions; calls of earlier and later ones, and of the function itself.
func TestFunctions(t *testing.T) {
	p := parsed(t, `
		func first(a, b, c) { if a { let x = b; } let y = c; return later(y, first(1, 2, 3)); }
		func none() { }
		func main(e) { while e { none(); } }
		func later(a, b) { let len1 = len(a); return main(len1); }`)
	c, err := Program(p)
	funcs := []api.CodeFunc{{Name: "first", Params: 3, Locals: 5, Entry: 0, End: 15}, {Name: "none", Params: 0, Locals: 0, Entry: 15, End: 17}, {Name: "main", Params: 1, Locals: 1, Entry: 17, End: 24}, {Name: "later", Params: 2, Locals: 3, Entry: 24, End: 32}}
	if err != api.OK || !slices.Equal(c.Funcs, funcs) {
		t.Error(c.Funcs, err)
	}
	want := "load 0; false 4; load 1; store 3; load 2; store 4; load 4; int 1; int 2; int 3; call 0; call 3; return; null; return; " +
		"null; return; load 0; false 22; call 1; pop; jump 17; null; return; load 0; built 1 len; store 2; load 2; call 2; return; null; return"
	if got := listed(t, c); got != want {
		t.Errorf("%s, not %s", got, want)
	}
	if n, err := Length(p); n != 32 || err != api.OK {
		t.Error(n, err)
	}
	checkAll(t, p)
}

// commas returns a list of n equal texts.
func commas(n int, s string) string {
	return strings.TrimSuffix(strings.Repeat(s+", ", n), ", ")
}

// pairs returns the inside of a map with n keys.
func pairs(n int) string {
	var l []string
	for i := range n {
		l = append(l, fmt.Sprintf(`"%03d": 0`, i))
	}
	return strings.Join(l, ", ")
}

// P12.1 to P12.3: programs that the layer below does not accept as code are still translated by Function and Length.
func TestUnverified(t *testing.T) {
	for body, want := range map[string]api.Errno{
		"[" + commas(64, "0") + "];":                                   api.OK,
		"[" + commas(65, "0") + "];":                                   api.ErrSyntax,
		"return 1; [" + commas(65, "0") + "];":                         api.ErrSyntax,
		"{" + pairs(64) + "};":                                         api.OK,
		"{" + pairs(65) + "};":                                         api.ErrSyntax,
		"[0, [" + commas(63, "0") + "]];":                              api.OK,
		"[0, [" + commas(64, "0") + "]];":                              api.ErrStack,
		"return 1; [0, [" + commas(64, "0") + "]];":                    api.OK,
		"main([" + commas(32, "0") + "] + [" + commas(63, "0") + "]);": api.OK,
		"main([" + commas(32, "0") + "] + [" + commas(64, "0") + "]);": api.ErrStack,
		"0 == {" + pairs(64) + "};":                                    api.ErrStack,
		"[" + commas(63, "0") + ", e and e];":                          api.ErrStack,
		"[" + commas(62, "0") + ", e and e];":                          api.OK,
		"[" + commas(62, "0") + ", e or e];":                           api.OK,
		"[" + commas(61, "0") + ", put(1, 2, 3), 4];":                  api.OK,
		"[" + commas(62, "0") + ", put(1, 2, 3)];":                     api.ErrStack,
	} {
		p := parsed(t, mainOf(body))
		if err, compiled := checkAll(t, p); err != api.OK || compiled != want {
			t.Errorf("%s: %d %d, not %d", body, err, compiled, want)
		}
	}
}

// P12.1 to P12.4: the errors of the static checks, which come before all others.
func TestRejected(t *testing.T) {
	for source, want := range map[string]api.Errno{
		"":                                               api.ErrNone,
		"func f(e) { }":                                  api.ErrNone,
		"func main() { }":                                api.ErrType,
		"func main(a, b) { }":                            api.ErrType,
		"func main(e) { } func main(e) { }":              api.ErrExists,
		"func len(a) { } func main(e) { }":               api.ErrExists,
		"func f(a, a) { } func main(e) { }":              api.ErrExists,
		"func main(e) { return x; }":                     api.ErrName,
		"func main(e) { x = 1; }":                        api.ErrName,
		"func main(e) { if e { let x = 1; } x; }":        api.ErrName,
		"func main(e) { let e = 1; }":                    api.ErrExists,
		"func main(e) { f(); }":                          api.ErrName,
		"func main(e) { main(); }":                       api.ErrType,
		"func main(e) { len(); }":                        api.ErrType,
		"func main(e) { @len(e); }":                      api.ErrName,
		"func main(e) { @get(); }":                       api.ErrType,
		"func main(e) { x; [" + commas(65, "0") + "]; }": api.ErrName,
	} {
		if err, compiled := checkAll(t, parsed(t, source)); err != want || compiled != want {
			t.Errorf("%s: %d %d, not %d", source, err, compiled, want)
		}
	}
	good := parsed(t, mainOf(`return {"a": -e, "b": e + 1};`))
	for i, change := range []func(p *api.Program){
		func(p *api.Program) { p.Nodes = nil },
		func(p *api.Program) { p.Nodes[0].Kind = api.NoNode },
		func(p *api.Program) { p.Nodes[0].Int = 1 },
		func(p *api.Program) { p.Nodes[1].Text = "+" },
		func(p *api.Program) { p.Nodes[1].Kids[0] = -1 },
		func(p *api.Program) { p.Nodes[1].Kids[0] = 1 },
		func(p *api.Program) { p.Nodes[1].Kids[0] = 1000 },
		func(p *api.Program) { p.Nodes[4].Kids = p.Nodes[4].Kids[:1] },
		func(p *api.Program) { p.Nodes[5].Keys[0] = "b" },
		func(p *api.Program) { p.Funcs[0].Body-- },
		func(p *api.Program) { p.Funcs[0].Body = -1 },
		func(p *api.Program) { p.Funcs[0].Name = "if" },
		func(p *api.Program) { p.Nodes = p.Nodes[1:] },
	} {
		p := copyProgram(good)
		change(&p)
		if err, compiled := checkAll(t, p); err != api.ErrSyntax || compiled != api.ErrSyntax {
			t.Error(i, err, compiled)
		}
	}
	p := copyProgram(good)
	p.Nodes = slices.Repeat(p.Nodes, 100)
	if err, _ := checkAll(t, p); err != api.ErrLimit {
		t.Error(err)
	}
}

// P12.1, P12.3: programs at the limits of nodes, functions, variables and nesting. None has too many instructions.
func TestLimits(t *testing.T) {
	let := ""
	for i := range 31 {
		let += fmt.Sprintf("let v%d = e; ", i)
	}
	sources := []string{
		mainOf(let),
		mainOf(let + "v30 = v0;"),
		mainOf("return " + strings.Repeat("- ", 28) + "e;"),
		mainOf(strings.Repeat("while e { if e { } else { ", 7) + strings.Repeat("} } ", 7)),
		mainOf(strings.Repeat("if e { ", 15) + strings.Repeat("} ", 15)),
		mainOf(strings.Repeat("(e or e) == (e or e); ", 74)),
		mainOf(strings.Repeat("e or e or e or e or e or e or e or e or e or e; ", 29)),
		mainOf(strings.Repeat("e; ", 298) + "return -e;"),
	}
	var l []string
	for i := range 15 {
		l = append(l, fmt.Sprintf("func f%d(a, b, c, d, e, f, g, h) { main(a); f%d(a, b, c, d, e, f, g, h); }", i, (i+7)%15))
	}
	sources = append(sources, strings.Join(append(l, mainOf("")), " "))
	for _, s := range sources {
		if err, compiled := checkAll(t, parsed(t, s)); err != api.OK || compiled != api.OK {
			t.Errorf("%.60s: %d %d", s, err, compiled)
		}
	}
	for _, s := range []string{mainOf(let + "let w = e;"), mainOf("let w = e; " + let)} {
		if err, _ := checkAll(t, parsed(t, s)); err != api.ErrLimit {
			t.Errorf("%.60s: %d", s, err)
		}
	}
}
