package static

import (
	"math"
	"slices"
	"strconv"
	"strings"
	"testing"

	"faas/api"
	"faas/syntax"
)

func parsed(t *testing.T, s string) api.Program {
	t.Helper()
	p, at, err := syntax.Parse(s)
	if err != api.OK {
		t.Fatalf("%q: %d at %d", s, err, at)
	}
	return p
}

// P9.1: names that are used twice, and main.
func TestCheckFunctions(t *testing.T) {
	for i, c := range []struct {
		s    string
		at   int
		want api.Errno
	}{
		{"func main(e) { }", 0, api.OK}, {"func main(e) { } func f() { } func g(a, b) { }", 0, api.OK}, {"func f() { } func main(main) { }", 0, api.OK}, {"func main(f) { } func f(f, g, len, get) { } func get() { }", 0, api.OK},
		// Functions with the same name: the later one counts.
		{"func main(e) { } func f() { } func f() { }", 2, api.ErrExists}, {"func main(e) { } func f() { } func f(a) { e; }", 4, api.ErrExists}, {"func main(e) { } func main(e) { }", 1, api.ErrExists}, {"func main() { } func main() { }", 1, api.ErrExists}, {"func f() { } func g() { } func f() { } func g() { }", 2, api.ErrExists}, {"func f() { } func g() { } func g() { } func f() { }", 2, api.ErrExists},
		// Built-in functions, but no host operations.
		{"func len(a) { } func main(e) { }", 0, api.ErrExists}, {"func main(e) { } func len(a) { e; }", 3, api.ErrExists}, {"func main(e) { } func put() { }", 1, api.ErrExists}, {"func main(e) { } func put1() { } func send() { } func now() { } func timer() { }", 0, api.OK},
		// Parameters.
		{"func main(a, a) { }", 0, api.ErrExists}, {"func f(a, b, c, a) { } func main(e) { }", 0, api.ErrExists}, {"func main(e) { } func f(a, b, c, d, e, f, g, g) { g; }", 3, api.ErrExists}, {"func main(e) { } func f(a) { } func g(a, b) { } func h(b, a) { }", 0, api.OK},
		// The first function counts, and what is wrong with functions comes before main and all nodes.
		{"func f(a, a) { } func f() { }", 0, api.ErrExists}, {"func f() { } func f() { } func g(a, a) { }", 1, api.ErrExists}, {"func f() { x; } func g() { f(1); } func len() { }", 7, api.ErrExists}, {"func main() { x; } func f(a, a) { }", 3, api.ErrExists},
		// Main.
		{"", -1, api.ErrNone}, {"func f() { }", -1, api.ErrNone}, {"func f() { x; } func g() { }", -1, api.ErrNone}, {"func mai(e) { } func main1(e) { } func _main(e) { }", -1, api.ErrNone},
		{"func main() { }", 0, api.ErrType}, {"func main(a, b) { }", 0, api.ErrType}, {"func f(a) { x; } func main() { y; }", 5, api.ErrType}, {"func f() { } func main(a, b, c, d, e, f, g, h) { a; } func g() { }", 3, api.ErrType},
	} {
		p := parsed(t, c.s)
		if at, err := Check(p); at != c.at || err != c.want {
			t.Errorf("%d: %d, %d", i, at, err)
		}
		checkAll(t, p)
	}
}

// P9.1: variables.
func TestCheckVariables(t *testing.T) {
	for i, c := range []struct {
		s    string // the body of main(e)
		at   int
		want api.Errno
	}{
		{"return x;", 0, api.ErrName}, {"e = x;", 0, api.ErrName}, {"x = e;", 1, api.ErrName}, {"x = y;", 0, api.ErrName}, {"main;", 0, api.ErrName}, {"len;", 0, api.ErrName},
		{"let x = e; x = x; return x;", 0, api.OK}, {"let x = x;", 0, api.ErrName}, {"x; let x = 1;", 0, api.ErrName}, {"x = 1; let x = 1;", 1, api.ErrName},
		{"let e = 1;", 1, api.ErrExists}, {"let e = e;", 1, api.ErrExists}, {"let e = x;", 0, api.ErrName}, {"let x = 1; let x = 2;", 3, api.ErrExists}, {"let len = 1; let main = len; let get = main; return get;", 0, api.OK},
		// Blocks.
		{"if e { let x = 1; } return x;", 5, api.ErrName}, {"if e { let x = 1; } x = 2;", 6, api.ErrName}, {"if e { let x = 1; x = e; while x { x; } }", 0, api.OK}, {"if e { let x = 1; } else { x; }", 4, api.ErrName}, {"if e { let x = 1; } else { let x = 2; }", 0, api.OK}, {"if e { let x = 1; } let x = 2; return x;", 0, api.OK},
		{"if e { x; } let x = 1;", 1, api.ErrName}, {"if x { let x = 1; }", 0, api.ErrName}, {"while x { let x = 1; }", 0, api.ErrName}, {"while e { let x = 1; } while e { let x = 2; } x;", 10, api.ErrName},
		{"let x = 1; if e { let x = 2; }", 4, api.ErrExists}, {"let x = 1; if e { } else { if e { x = 2; let x = 3; } }", 8, api.ErrExists}, {"let x = 1; if e { let y = x; } if e { let y = x; } x; y;", 14, api.ErrName}, {"if e { let e = 1; }", 2, api.ErrExists},
		{"if e { let x = 1; if e { let y = 2; } let y = 3; } let y = 4; let x = 5;", 0, api.OK}, {"if e { let x = 1; if e { let y = 2; } x; y; }", 10, api.ErrName}, {"if e { let x = 1; if e { let y = 2; } let x = 3; }", 9, api.ErrExists},
		// A block of its own ends, not the one around it.
		{"let x = 1; if e { let y = 1; } else { } x; let y = x; while e { } y; x;", 0, api.OK}, {"if e { if e { let x = 1; } x; }", 6, api.ErrName},
	} {
		p := parsed(t, "func main(e) {"+c.s+"}")
		if at, err := Check(p); at != c.at || err != c.want {
			t.Errorf("%d: %d, %d", i, at, err)
		}
		checkAll(t, p)
	}
	// Variables of other functions are not visible.
	for s, at := range map[string]int{"func f() { let x = 1; } func main(e) { x; }": 3, "func f(x) { } func main(e) { x; }": 1, "func main(e) { } func f() { e; }": 1, "func main(e) { x; } func f(x) { }": 0, "func main(e) { f = e; } func f() { }": 1} {
		p := parsed(t, s)
		if i, err := Check(p); i != at || err != api.ErrName {
			t.Errorf("%s: %d, %d", s, i, err)
		}
		checkAll(t, p)
	}
	if err := checkAll(t, parsed(t, "func f(x) { let y = x; } func main(x) { let y = x; } func g(y) { let x = y; }")); err != api.OK {
		t.Error(err)
	}
}

// declarations returns n NdLet statements of variables with the prefix.
func declarations(prefix string, n int) string {
	s := ""
	for i := range n {
		s += "let " + prefix + strconv.Itoa(i) + " = e; "
	}
	return s
}

// P9.1, P9.3: the limit of variables.
func TestCheckLocals(t *testing.T) {
	main := func(body string) string { return "func main(e) {" + body + "}" }
	wide := func(n int) string {
		return "func main(e) { } func f(e, a, b, c, d, f, g, h) {" + declarations("x", n) + "}"
	}
	for i, c := range []struct {
		s      string
		at     int
		want   api.Errno
		f      int
		locals int
	}{
		{main(declarations("x", 31)), 0, api.OK, 0, 32}, {main(declarations("x", 32)), 63, api.ErrLimit, 0, 0}, {main(declarations("x", 40)), 63, api.ErrLimit, 0, 0},
		{wide(24), 0, api.OK, 1, 32}, {wide(25), 50, api.ErrLimit, 1, 0},
		{"func f(e) {" + declarations("x", 31) + "}" + main(declarations("x", 31)), 0, api.OK, 1, 32}, {"func f() { let e = 1; " + declarations("x", 31) + "}" + main(""), 0, api.OK, 0, 32}, {"func f() { let e = 1; " + declarations("x", 32) + "}" + main(""), 65, api.ErrLimit, 0, 0},
		// Blocks that have ended count, too, and so does a name that is declared again.
		{main("if e {" + declarations("x", 15) + "} else {" + declarations("x", 15) + "} let y = 1;"), 0, api.OK, 0, 32}, {main("if e {" + declarations("x", 15) + "} else {" + declarations("x", 16) + "} let y = 1;"), 67, api.ErrLimit, 0, 0}, {main(strings.Repeat("if e { let x = e; } ", 31)), 0, api.OK, 0, 32}, {main(strings.Repeat("if e { let x = e; } ", 32)), 157, api.ErrLimit, 0, 0},
		// Another error of the same node or an earlier one comes first.
		{main(declarations("x", 31) + "let x7 = e;"), 63, api.ErrExists, 0, 0}, {main(declarations("x", 31) + "let e = e;"), 63, api.ErrExists, 0, 0}, {main(declarations("x", 31) + "let y = y;"), 62, api.ErrName, 0, 0}, {main(declarations("x", 31) + "let y = e; let x0 = e;"), 63, api.ErrLimit, 0, 0}, {main(declarations("x", 31) + "x30 = e; e = x0;"), 0, api.OK, 0, 32},
	} {
		p := parsed(t, c.s)
		if at, err := Check(p); at != c.at || err != c.want {
			t.Errorf("%d: %d, %d", i, at, err)
		}
		if n, err := Locals(p, c.f); n != c.locals || err != c.want {
			t.Errorf("%d: %d variables, %d", i, n, err)
		}
		checkAll(t, p)
	}
}

// P9.1, P9.5: each name with each number of arguments, called as a function and as a host operation.
func TestCheckCalls(t *testing.T) {
	program := func(expr string) api.Program {
		return parsed(t, "func f0() { } func f1(a) { } func f8(a, b, c, d, e, f, g, h) { } func main(e) { let x = 1; return "+expr+"; }")
	}
	own := map[string]int{"f0": 0, "f1": 1, "f8": 8, "main": 1}
	names := []string{"f0", "f1", "f8", "f", "f9", "main", "x", "e", "a", "len", "str", "int", "push", "put", "keys", "has", "fail", "get", "delete", "send", "timer", "signal", "secret", "fetch", "now", "log", "if", "null", "let", "bool", "pop", "set", "print", "_", strings.Repeat("n", 24)}
	failing := func(want int, known bool, n int) (int, api.Errno) {
		if known && want == n {
			return 0, api.OK
		}
		// Three blocks, 1, let x, and the arguments are the nodes before.
		return 5 + n, map[bool]api.Errno{false: api.ErrName, true: api.ErrType}[known]
	}
	for _, name := range names {
		for n := range 10 {
			arguments := "(" + strings.Join(slices.Repeat([]string{"x"}, n), ", ") + ")"
			want, known := hostOps[name]
			wantAt, wantErr := failing(want, known, n)
			p := program("@" + name + arguments)
			if at, err := Check(p); at != wantAt || err != wantErr {
				t.Errorf("@%s%s: %d, %d", name, arguments, at, err)
			}
			checkAll(t, p)
			if name == "if" || name == "null" || name == "let" {
				continue // no call by the grammar
			}
			want, known = builtins[name]
			if count, ok := own[name]; ok {
				want, known = count, true
			}
			wantAt, wantErr = failing(want, known, n)
			p = program(name + arguments)
			if at, err := Check(p); at != wantAt || err != wantErr {
				t.Errorf("%s%s: %d, %d", name, arguments, at, err)
			}
			checkAll(t, p)
		}
	}
}

// P9.1: the first node with an error counts, in the order of the nodes.
func TestCheckFirst(t *testing.T) {
	for i, c := range []struct {
		s    string
		at   int
		want api.Errno
	}{
		{"func main(e) { f(x); }", 0, api.ErrName}, {"func main(e) { f(e); x; }", 1, api.ErrName}, {"func main(e) { len(e, len()); }", 1, api.ErrType}, {"func main(e) { len(@get(), x); }", 0, api.ErrType}, {"func main(e) { let e = @nix(y); }", 0, api.ErrName}, {"func main(e) { let e = @nix(); }", 0, api.ErrName}, {"func main(e) { let e = @get(); }", 0, api.ErrType}, {"func main(e) { let e = @now(); }", 1, api.ErrExists}, {"func main(e) { x = @now(); y; }", 1, api.ErrName},
		{"func main(e) { y + z; }", 0, api.ErrName}, {"func main(e) { e + z; }", 1, api.ErrName}, {"func main(e) { [1, {\"a\": 2, \"b\": e[-x]}]; }", 3, api.ErrName}, {"func main(e) { not (e and f()); }", 1, api.ErrName}, {"func main(e) { if f() { x; } }", 0, api.ErrName}, {"func main(e) { while e { x; } f(); }", 1, api.ErrName},
		// Functions in their order, not in that of the calls.
		{"func g() { x; } func main(e) { y; }", 0, api.ErrName}, {"func main(e) { f(); } func f() { x; }", 3, api.ErrName}, {"func main(e) { f(1); } func f() { x; }", 1, api.ErrType}, {"func main(e) { } func f() { main(f()); main(); }", 4, api.ErrType},
	} {
		p := parsed(t, c.s)
		if at, err := Check(p); at != c.at || err != c.want {
			t.Errorf("%d: %d, %d", i, at, err)
		}
		checkAll(t, p)
	}
}

// P9.1: programs that syntax.Check rejects, also such as have other errors.
func TestCheckSyntax(t *testing.T) {
	good := parsed(t, "func main(e) { let x = [e, @now()]; if x { f(x); } } func f(a) { @log(a); }")
	for i, change := range []func(p *api.Program){
		func(p *api.Program) { p.Funcs[0].Body = -1 }, func(p *api.Program) { p.Funcs[0].Body = math.MaxInt }, func(p *api.Program) { p.Funcs[1].Body-- }, func(p *api.Program) { p.Funcs = nil }, func(p *api.Program) { p.Nodes = nil }, func(p *api.Program) { p.Funcs = p.Funcs[:1] }, func(p *api.Program) { slices.Reverse(p.Funcs) },
		func(p *api.Program) { p.Funcs[0].Name = "" }, func(p *api.Program) { p.Funcs[0].Name = "if" }, func(p *api.Program) { p.Funcs[1].Params[0] = "A" }, func(p *api.Program) { p.Funcs[1].Params = []string{"a", "a", ""} },
		func(p *api.Program) { p.Nodes[0].Text = "X" }, func(p *api.Program) { p.Nodes[0].Kind = api.NoNode }, func(p *api.Program) { p.Nodes[0].Kind = 20 }, func(p *api.Program) { p.Nodes[0].Kids = []int{0} }, func(p *api.Program) { p.Nodes[2].Kids = []int{0, math.MaxInt} }, func(p *api.Program) { p.Nodes[2].Kids = []int{-1, 1} }, func(p *api.Program) { p.Nodes[3].Kids = nil }, func(p *api.Program) { p.Nodes[len(p.Nodes)-1].Kids[0] = len(p.Nodes) - 1 },
		func(p *api.Program) { p.Nodes = append(p.Nodes, api.Node{Kind: api.NdBlock}) }, func(p *api.Program) { p.Funcs = append(p.Funcs, p.Funcs[1]) },
	} {
		p := copied(good)
		change(&p)
		if at, err := Check(p); at != -1 || err != api.ErrSyntax {
			t.Errorf("%d: %d, %d", i, at, err)
		}
		checkAll(t, p)
	}
	functions := func(n int) api.Program {
		p := api.Program{Nodes: slices.Repeat([]api.Node{{Kind: api.NdBlock}}, n)}
		for i := range n {
			p.Funcs = append(p.Funcs, api.Func{Name: "f" + strconv.Itoa(i), Body: i})
		}
		p.Funcs[0] = api.Func{Name: "main", Params: []string{"e"}}
		return p
	}
	wide := parsed(t, "func main(e) { } func f(a, b, c, d, e, f, g, h) { }")
	tooWide := copied(wide)
	tooWide.Funcs[1].Params = append(tooWide.Funcs[1].Params, "h")
	full := parsed(t, "func main(e) {"+strings.Repeat("e;", 299)+"}")
	full.Nodes = append(full.Nodes, api.Node{Kind: api.NdBlock})
	full.Funcs = append(full.Funcs, api.Func{Name: "f", Body: 599})
	tooFull := copied(full)
	tooFull.Nodes = append(tooFull.Nodes, api.Node{Kind: api.NdBlock})
	tooFull.Funcs = append(tooFull.Funcs, api.Func{Name: "f", Body: 600})
	for i, c := range []struct {
		p    api.Program
		at   int
		want api.Errno
	}{{functions(16), 0, api.OK}, {functions(17), -1, api.ErrLimit}, {functions(1000), -1, api.ErrLimit}, {wide, 0, api.OK}, {tooWide, -1, api.ErrLimit}, {full, 0, api.OK}, {tooFull, -1, api.ErrLimit}, {nested("e", 29), 0, api.OK}, {nested("e", 30), -1, api.ErrLimit}, {nested("x", 30), -1, api.ErrLimit}, {nested("x", 29), 0, api.ErrName}, {api.Program{Nodes: make([]api.Node, 600)}, -1, api.ErrSyntax}, {api.Program{Nodes: make([]api.Node, 601)}, -1, api.ErrLimit}, {api.Program{Nodes: []api.Node{}, Funcs: []api.Func{}}, -1, api.ErrNone}} {
		if at, err := Check(c.p); at != c.at || err != c.want {
			t.Errorf("%d: %d, %d", i, at, err)
		}
		checkAll(t, c.p)
	}
}

// nested returns a program with a variable behind n minus signs.
func nested(name string, n int) api.Program {
	nodes := []api.Node{{Kind: api.NdVar, Text: name}}
	for i := range n {
		nodes = append(nodes, api.Node{Kind: api.NdUnary, Text: "-", Kids: []int{i}})
	}
	nodes = append(nodes, api.Node{Kind: api.NdDo, Kids: []int{n}}, api.Node{Kind: api.NdBlock, Kids: []int{n + 1}})
	return api.Program{Nodes: nodes, Funcs: []api.Func{{Name: "main", Params: []string{"e"}, Body: n + 2}}}
}

// P9.2
func TestOps(t *testing.T) {
	every := "@timer(1, 2, 3); @put(1, 2); @get(1); @delete(1); @send(1, 2); @signal(1, 2); @secret(1); @fetch(1, 2); @now(); @log(1);"
	for s, want := range map[string]string{
		"func main(e) { }": "", "func main(e) { put({}, \"@get(1)\", len(e)); }": "", "func main(get) { let log = get; log = get; }": "", "func get(a) { } func main(e) { get(e); }": "",
		"func main(e) { @now(); }": "now", "func main(e) { @now(); @get(@now()); @now(); }": "get now", "func main(e) { if e { while @secret(e) { } } else { e = [@get(e), @fetch(e, -@log(e))]; } }": "fetch get log secret",
		"func main(e) { } func f() { @put(1, 2); } func g() { @delete(1); }": "delete put", "func f() { return @send(1, 2); } func main(e) { f(); @get(e); }": "get send",
		"func main(e) {" + every + "}": "delete fetch get log now put secret send signal timer", "func main(e) {" + every + every + "}": "delete fetch get log now put secret send signal timer",
		"func f() { @get(1); }": "", "func main(e) { @get(1); x; }": "", "func main(e) { @get(1); @get(); }": "", "func main(e) { @get(1); @nix(); }": "",
	} {
		p := parsed(t, s)
		if ops := strings.Join(Ops(p), " "); ops != want {
			t.Errorf("%s: %s", s, ops)
		}
		checkAll(t, p)
	}
}

// P9.3
func TestSlots(t *testing.T) {
	for s, want := range map[string]string{
		"func main(e) { }":                                                                               "-1",
		"func main(e) { let x = e; return x; }":                                                          "0 1 1 -1 -1",
		"func main(e) { let x = 1; e = x; x = e; }":                                                      "-1 1 1 0 0 1 -1",
		"func main(e) { let b = e; let a = b; b; a; }":                                                   "0 1 1 2 1 -1 2 -1 -1",
		"func f(a, b, c) { c; b; a; let d = c; d = b; } func main(e) { let d = e; }":                     "2 -1 1 -1 0 -1 2 3 1 3 -1 0 1 -1",
		"func main(e) { if e { let x = 1; x; } else { let x = 2; x; } let x = 3; x; }":                   "0 -1 1 1 -1 -1 -1 2 2 -1 -1 -1 -1 3 3 -1 -1",
		"func main(e) { while e { let x = e; if x { let y = x; y = e; } let y = x; } e = e; }":           "0 0 1 1 1 2 0 2 -1 -1 1 3 -1 -1 0 0 -1",
		"func main(e) { len(e); @get(e); {\"e\": e}[\"e\"]; not [null, true, \"e\", 7] + -e; main(e); }": "0 -1 -1 0 -1 -1 0 -1 -1 -1 -1 -1 -1 -1 -1 -1 0 -1 -1 -1 -1 0 -1 -1 -1",
		"func main(e) { x; }": "", "func f() { }": "",
	} {
		p := parsed(t, s)
		slots, _ := Slots(p)
		var l []string
		for _, slot := range slots {
			l = append(l, strconv.Itoa(slot))
		}
		if got := strings.Join(l, " "); got != want {
			t.Errorf("%s: %s", s, got)
		}
		checkAll(t, p)
	}
}

// P9.3
func TestLocals(t *testing.T) {
	p := parsed(t, "func f() { } func g(a, b) { let c = a; if c { let d = b; } else { let d = c; } } func main(e) { let x = e; return x; } func h() { while true { let a = 1; } let a = 2; }")
	for f, want := range []int{0, 5, 2, 2} {
		if n, err := Locals(p, f); n != want || err != api.OK {
			t.Errorf("function %d: %d, %d", f, n, err)
		}
	}
	bad := parsed(t, "func main(e) { let x = e; return y; }")
	for _, f := range []int{math.MinInt, -1, 4, 5, math.MaxInt} {
		if n, err := Locals(p, f); n != 0 || err != api.ErrRange {
			t.Errorf("function %d: %d, %d", f, n, err)
		}
		if n, err := Locals(bad, f); n != 0 || err != api.ErrName {
			t.Errorf("function %d: %d, %d", f, n, err)
		}
		if len(Calls(p, f)) > 0 {
			t.Errorf("function %d: calls", f)
		}
	}
}

// P9.4
func TestCalls(t *testing.T) {
	for i, c := range []struct {
		s       string
		calls   [][]int
		reached []int
	}{
		{"func main(e) { }", [][]int{nil}, []int{0}}, {"func main(e) { main(e); }", [][]int{{0}}, []int{0}}, {"func main(e) { len(str(e)); @get(e); }", [][]int{nil}, []int{0}},
		{"func f() { } func main(e) { }", [][]int{nil, nil}, []int{1}}, {"func f() { f(); } func main(e) { }", [][]int{{0}, nil}, []int{1}}, {"func f() { main(1); } func main(e) { }", [][]int{{1}, nil}, []int{1}}, {"func f() { main(1); } func main(e) { f(); }", [][]int{{1}, {0}}, []int{0, 1}},
		// A name that is no call.
		{"func f() { } func main(f) { let g = f; f = g; \"f\"; @log(f); } func g() { }", [][]int{nil, nil, nil}, []int{1}}, {"func get(a) { } func main(e) { @get(e); }", [][]int{nil, nil}, []int{1}},
		// In any order and place, more than once.
		{"func a() { } func b() { } func main(e) { c(); b(); a(); b(); c(); } func c() { }", [][]int{nil, nil, {0, 1, 3}, nil}, []int{0, 1, 2, 3}}, {"func main(e) { if a() { while b() { e = [c(main(d()))]; } } else { let x = {\"k\": e[-f()]}; } } func a() { } func b() { } func c(x) { } func d() { } func f() { } func g() { }", [][]int{{0, 1, 2, 3, 4, 5}, nil, nil, nil, nil, nil, nil}, []int{0, 1, 2, 3, 4, 5}},
		// Chains and rings, and functions beside them.
		{"func e() { } func d() { e(); } func c() { d(); } func b() { c(); } func main(x) { b(); }", [][]int{nil, {0}, {1}, {2}, {3}}, []int{0, 1, 2, 3, 4}}, {"func main(x) { d(); } func a() { b(); } func b() { c(); } func c() { a(); } func d() { c(); } func e() { main(1); d(); }", [][]int{{4}, {2}, {3}, {1}, {3}, {0, 4}}, []int{0, 1, 2, 3, 4}}, {"func a() { b(); } func b() { a(); } func main(e) { c(); } func c() { c(); } func d() { c(); a(); }", [][]int{{1}, {0}, {3}, {3}, {0, 3}}, []int{2, 3}},
		// With an error.
		{"func f() { f(); }", [][]int{nil}, nil}, {"func main(e) { main(e); x; }", [][]int{nil}, nil}, {"func main() { main(); }", [][]int{nil}, nil}, {"func main(e) { main(e); } func f() { f(); len(); }", [][]int{nil, nil}, nil},
	} {
		p := parsed(t, c.s)
		for f, want := range c.calls {
			if calls := Calls(p, f); !slices.Equal(calls, want) {
				t.Errorf("%d: function %d: %v", i, f, calls)
			}
		}
		if reached := Reachable(p); !slices.Equal(reached, c.reached) {
			t.Errorf("%d: %v", i, reached)
		}
		checkAll(t, p)
	}
}

// P9.5
func TestNames(t *testing.T) {
	names := []string{"", " ", "len ", " len", "Len", "LEN", "le", "lenn", "@get", "@", "get()", "Get", "main", "print", "set", "pop", "if", "func", "null", "é", "\xff", "\x00", "len\x00", strings.Repeat("n", 24), strings.Repeat("x", 100000)}
	for name := range builtins {
		names = append(names, name, name[:len(name)-1], name+"s", strings.ToUpper(name))
	}
	for name := range hostOps {
		names = append(names, name, name[:len(name)-1], name+"s", "@"+name)
	}
	for _, name := range names {
		want, ok := builtins[name]
		if n, found := Builtin(name); n != want || found != ok {
			t.Errorf("Builtin of %.80q: %d, %v", name, n, found)
		}
		want, ok = hostOps[name]
		if n, found := HostOp(name); n != want || found != ok {
			t.Errorf("HostOp of %.80q: %d, %v", name, n, found)
		}
	}
}
