package code

import (
	"math"
	"slices"
	"strings"
	"testing"

	"faas/api"
)

// The instructions that need no operands, and makers of the others.
var (
	null  = api.Ins{Op: api.OpNull}
	pop   = api.Ins{Op: api.OpPop}
	index = api.Ins{Op: api.OpIndex}
	test  = api.Ins{Op: api.OpTest}
	dup   = api.Ins{Op: api.OpDup}
	ret   = api.Ins{Op: api.OpReturn}
	plus  = api.Ins{Op: api.OpBinary, S: "+"}
)

func with(op api.Op, a int) api.Ins { return api.Ins{Op: op, A: a} }

func jump(a int) api.Ins { return with(api.OpJump, a) }

func falseTo(a int) api.Ins { return with(api.OpFalse, a) }

func list(a int) api.Ins { return with(api.OpList, a) }

func str(s string) api.Ins { return api.Ins{Op: api.OpStr, S: s} }

func mapOf(keys ...string) api.Ins { return api.Ins{Op: api.OpMap, A: len(keys), Keys: keys} }

// codeOf returns the code of main with one parameter, two variables and the instructions.
func codeOf(ins ...api.Ins) api.Code {
	return api.Code{Funcs: []api.CodeFunc{{Name: "main", Params: 1, Locals: 2, End: len(ins)}}, Ins: ins}
}

// times returns n of the instruction.
func times(n int, in api.Ins) []api.Ins { return slices.Repeat([]api.Ins{in}, n) }

// unreached returns the code in which the instructions are never reached, so that they may do to the stack what they like.
func unreached(ins ...api.Ins) api.Code {
	return codeOf(slices.Concat([]api.Ins{null, ret}, ins, []api.Ins{ret})...)
}

// expect checks everything with c, and that Check returns what is wanted.
func expect(t *testing.T, c api.Code, at int, want api.Errno) {
	t.Helper()
	if i, err := Check(c); i != at || err != want {
		t.Errorf("%v: %d, %d, not %d, %d", c, i, err, at, want)
	}
	checkAll(t, c)
}

// P11.1: the number of functions and instructions.
func TestCheckLimits(t *testing.T) {
	letters := "abcdefghijklmnopqrst"
	small := func(n int) api.Code {
		var c api.Code
		for i := range n {
			c.Funcs = append(c.Funcs, api.CodeFunc{Name: letters[i : i+1], Entry: 2 * i, End: 2*i + 2})
			c.Ins = append(c.Ins, null, ret)
		}
		return c
	}
	for n := range 17 {
		expect(t, small(n), 0, api.OK)
	}
	for n := 17; n <= 20; n++ {
		expect(t, small(n), 0, api.ErrLimit)
	}
	for _, n := range []int{1, 2, 3998} {
		expect(t, unreached(times(n-1, null)...), 0, api.OK)
	}
	for _, n := range []int{3999, 4000, 10000} {
		expect(t, unreached(times(n-1, null)...), 0, api.ErrLimit)
	}
	// The limits come before all other errors.
	expect(t, api.Code{Funcs: make([]api.CodeFunc, 17)}, 0, api.ErrLimit)
	expect(t, api.Code{Funcs: make([]api.CodeFunc, 16)}, 0, api.ErrName)
	expect(t, api.Code{Ins: make([]api.Ins, 4001)}, 0, api.ErrLimit)
	expect(t, api.Code{Ins: make([]api.Ins, 4000)}, 0, api.ErrOrder)
}

// P11.1: names of functions.
func TestCheckNames(t *testing.T) {
	long := strings.Repeat("a", 24)
	for s, want := range map[string]api.Errno{
		"main": api.OK, "a": api.OK, "z": api.OK, "_": api.OK, "_9": api.OK, "a_b1": api.OK, "len": api.OK, "get": api.OK, "ifs": api.OK, "mains": api.OK, long: api.OK,
		"": api.ErrName, " ": api.ErrName, "1": api.ErrName, "9a": api.ErrName, "A": api.ErrName, "aB": api.ErrName, "a-b": api.ErrName, "é": api.ErrName, "a\x00": api.ErrName, long + "a": api.ErrName,
		"a b": api.ErrName, " a": api.ErrName, "a ": api.ErrName, "a\n": api.ErrName, "\ta": api.ErrName, "a//": api.ErrName, "a// b": api.ErrName, "//\na": api.ErrName, "@a": api.ErrName, "\"a\"": api.ErrName, "+": api.ErrName, "(": api.ErrName, "0": api.ErrName, strings.Repeat("a", 5000): api.ErrName, strings.Repeat(" ", 4000) + "a": api.ErrName,
		"func": api.ErrName, "let": api.ErrName, "if": api.ErrName, "else": api.ErrName, "while": api.ErrName, "return": api.ErrName, "and": api.ErrName, "or": api.ErrName, "not": api.ErrName, "null": api.ErrName, "true": api.ErrName, "false": api.ErrName,
	} {
		expect(t, api.Code{Funcs: []api.CodeFunc{{Name: s, End: 2}}, Ins: []api.Ins{null, ret}}, 0, want)
		at := 0
		if want != api.OK {
			at = 1
		}
		expect(t, api.Code{Funcs: []api.CodeFunc{{Name: "first", End: 2}, {Name: s, Entry: 2, End: 4}}, Ins: []api.Ins{null, ret, null, ret}}, at, want)
	}
	three := func(names ...string) api.Code {
		var c api.Code
		for i, s := range names {
			c.Funcs = append(c.Funcs, api.CodeFunc{Name: s, Entry: i, End: i + 1})
			c.Ins = append(c.Ins, jump(i))
		}
		return c
	}
	expect(t, three("a", "b", "c"), 0, api.OK)
	expect(t, three("a", "b", "a"), 2, api.ErrName)
	expect(t, three("a", "a", "a"), 1, api.ErrName)
	expect(t, three("b", "a", "a", "b"), 2, api.ErrName)
	expect(t, three("a", "b", "B", "a"), 2, api.ErrName)
}

// P11.1: parameters, variables, and the instructions of a function.
func TestCheckFunctions(t *testing.T) {
	for _, f := range []struct {
		params, locals int
		want           api.Errno
	}{
		{0, 0, api.OK}, {0, 1, api.OK}, {0, 32, api.OK}, {8, 8, api.OK}, {8, 32, api.OK}, {1, 1, api.OK}, {7, 7, api.OK},
		{-1, 0, api.ErrRange}, {-1, -1, api.ErrRange}, {9, 9, api.ErrRange}, {9, 32, api.ErrRange}, {8, 7, api.ErrRange}, {1, 0, api.ErrRange}, {0, -1, api.ErrRange}, {0, 33, api.ErrRange}, {8, 33, api.ErrRange},
		{math.MinInt, 0, api.ErrRange}, {math.MaxInt, 32, api.ErrRange}, {0, math.MaxInt, api.ErrRange}, {0, math.MinInt, api.ErrRange}, {math.MaxInt, math.MaxInt, api.ErrRange},
	} {
		expect(t, api.Code{Funcs: []api.CodeFunc{{Name: "f", Params: f.params, Locals: f.locals, End: 2}}, Ins: []api.Ins{null, ret}}, 0, f.want)
	}
	six := slices.Repeat([]api.Ins{null, ret}, 3)
	for _, c := range []struct {
		funcs [][2]int // Entry and End
		at    int
		want  api.Errno
	}{
		{[][2]int{{0, 6}}, 0, api.OK}, {[][2]int{{0, 2}, {2, 6}}, 0, api.OK}, {[][2]int{{0, 2}, {2, 4}, {4, 6}}, 0, api.OK},
		{[][2]int{}, 0, api.ErrOrder}, {[][2]int{{0, 4}}, 1, api.ErrOrder}, {[][2]int{{0, 2}, {2, 4}}, 2, api.ErrOrder}, {[][2]int{{0, 2}, {2, 4}, {4, 5}}, 3, api.ErrOrder},
		{[][2]int{{1, 6}}, 0, api.ErrOrder}, {[][2]int{{-1, 6}}, 0, api.ErrOrder}, {[][2]int{{0, 7}}, 0, api.ErrOrder}, {[][2]int{{0, 0}}, 0, api.ErrOrder}, {[][2]int{{0, -1}}, 0, api.ErrOrder}, {[][2]int{{0, math.MaxInt}}, 0, api.ErrOrder}, {[][2]int{{0, math.MinInt}}, 0, api.ErrOrder},
		{[][2]int{{0, 2}, {3, 6}}, 1, api.ErrOrder}, {[][2]int{{0, 2}, {1, 6}}, 1, api.ErrOrder}, {[][2]int{{0, 2}, {0, 6}}, 1, api.ErrOrder}, {[][2]int{{0, 2}, {2, 2}, {2, 6}}, 1, api.ErrOrder}, {[][2]int{{0, 2}, {2, 1}}, 1, api.ErrOrder}, {[][2]int{{0, 6}, {6, 6}}, 1, api.ErrOrder}, {[][2]int{{0, 6}, {6, 7}}, 1, api.ErrOrder}, {[][2]int{{0, 2}, {2, 8}, {8, 6}}, 1, api.ErrOrder},
	} {
		code := api.Code{Ins: six}
		for i, f := range c.funcs {
			code.Funcs = append(code.Funcs, api.CodeFunc{Name: string(rune('a' + i)), Entry: f[0], End: f[1]})
		}
		expect(t, code, c.at, c.want)
	}
	expect(t, api.Code{}, 0, api.OK)
	expect(t, api.Code{Funcs: []api.CodeFunc{}, Ins: []api.Ins{}}, 0, api.OK)
	expect(t, api.Code{Ins: []api.Ins{ret}}, 0, api.ErrOrder)
	expect(t, api.Code{Funcs: []api.CodeFunc{{Name: "f"}}}, 0, api.ErrOrder)
}

// P11.1: the errors of a function come in their order, function by function, and before those of instructions.
func TestCheckFunctionOrder(t *testing.T) {
	good := func() api.Code {
		return api.Code{Funcs: []api.CodeFunc{{Name: "a", End: 2}, {Name: "b", Entry: 2, End: 4}}, Ins: []api.Ins{null, ret, null, ret}}
	}
	spoil := []struct {
		err api.Errno
		do  func(f *api.CodeFunc)
	}{
		{api.ErrName, func(f *api.CodeFunc) { f.Name = "A" }},
		{api.ErrRange, func(f *api.CodeFunc) { f.Params = 9 }},
		{api.ErrRange, func(f *api.CodeFunc) { f.Locals = 33 }},
		{api.ErrOrder, func(f *api.CodeFunc) { f.Entry++ }},
		{api.ErrOrder, func(f *api.CodeFunc) { f.End = f.Entry }},
	}
	for i := range 2 {
		for set := 1; set < 1<<len(spoil); set++ {
			c := good()
			want := api.OK
			for k, s := range spoil {
				if set>>k&1 > 0 {
					s.do(&c.Funcs[i])
					if want == api.OK {
						want = s.err
					}
				}
			}
			c.Ins[0].A = 1
			expect(t, c, i, want)
			if i == 0 {
				c.Funcs[1].Name = ""
				expect(t, c, i, want)
			}
		}
	}
	c := good()
	c.Ins[0].A = 1
	expect(t, c, 0, api.ErrSyntax)
	c.Ins = append(c.Ins, ret)
	expect(t, c, 2, api.ErrOrder)
	c.Funcs[1].Name = "a"
	expect(t, c, 1, api.ErrName)
}

// candidates returns instructions of all operations with operands at the edges.
func candidates() []api.Ins {
	numbers := []int{-1, 0, 1, 2, 3, 4, 5, 6, 31, 32, 63, 64, 65, greatest, greatest + 1, -greatest, -greatest - 1, math.MaxInt, math.MinInt}
	texts := []string{"", "x", "-", "not", "and", "or", "=", " ", "a\"b\\", "é", "a\n", "\x7f", strings.Repeat("~", 200), strings.Repeat("\"", 200), strings.Repeat("x", 201), "main"}
	texts = append(texts, binaries...)
	for s := range builtins {
		texts = append(texts, s)
	}
	for s := range hostOps {
		texts = append(texts, s, "@"+s)
	}
	slices.Sort(texts)
	texts = slices.Compact(texts)
	keys := [][]string{nil, {}, {""}, {"a"}, {"", "a"}, {"a", ""}, {"a", "b"}, {"b", "a"}, {"a", "a"}, {"", ""}, {"a", "aa", "b"}, {"a", "b", "aa"}, {"é"}, {"a\n"}, {"a", "b", "\x7f"}, {strings.Repeat("k", 200)}, {strings.Repeat("k", 201)}}
	var many []string
	for i := range 65 {
		many = append(many, string([]byte{'a' + byte(i/8), 'a' + byte(i%8)}))
	}
	keys = append(keys, many[:63], many[:64], many)
	var l []api.Ins
	for op := -1; op <= 22; op++ {
		for _, a := range numbers {
			for _, s := range texts {
				l = append(l, api.Ins{Op: api.Op(op), A: a, S: s})
			}
			for _, k := range keys {
				l = append(l, api.Ins{Op: api.Op(op), A: a, Keys: k}, api.Ins{Op: api.Op(op), A: a, S: "x", Keys: k})
			}
		}
		l = append(l, api.Ins{Op: api.Op(op), S: "-", Keys: []string{"a"}}, api.Ins{Op: api.Op(op), S: "+", Keys: []string{"a"}}, api.Ins{Op: api.Op(op), A: 1, S: "len", Keys: []string{"a"}}, api.Ins{Op: api.Op(op), A: 1, S: "get", Keys: []string{"a"}})
	}
	return append(l, api.Ins{Op: math.MinInt}, api.Ins{Op: math.MaxInt}, api.Ins{Op: 256 + 1}, api.Ins{Op: 1 << 32})
}

// P11.1: every operation with operands at the edges; the code has three functions, and the instruction is one of the second.
func TestCheckInstructions(t *testing.T) {
	c := api.Code{Funcs: []api.CodeFunc{{Name: "a", Params: 1, Locals: 1, End: 2}, {Name: "main", Params: 1, Locals: 2, Entry: 2, End: 6}, {Name: "z", Params: 2, Locals: 3, Entry: 6, End: 7}}}
	accepted := map[api.Op]int{}
	for _, in := range candidates() {
		c.Ins = []api.Ins{null, ret, null, ret, in, ret, jump(6)}
		want := api.ErrSyntax
		at := 4
		if proper(c, c.Funcs[1], in) {
			at, want = 0, api.OK
			accepted[in.Op]++
			checkAll(t, c)
		} else if err := checkOnly(t, c); err != want {
			t.Fatal(in, err)
		}
		if i, err := Check(c); i != at || err != want {
			t.Errorf("%v: %d, %d, not %d, %d", in, i, err, at, want)
		}
	}
	for op, want := range map[api.Op]int{api.OpNull: 3, api.OpBool: 6, api.OpInt: 45, api.OpLoad: 6, api.OpUnary: 2, api.OpBinary: 11, api.OpJump: 12, api.OpFalse: 12, api.OpCall: 9, api.OpBuilt: 8, api.OpHost: 10} {
		if accepted[op] != want {
			t.Errorf("operation %d: %d of them are accepted, not %d", op, accepted[op], want)
		}
	}
}

// checkOnly checks Check, and that Depths has the same error.
func checkOnly(t *testing.T, c api.Code) api.Errno {
	t.Helper()
	at, want, _ := wantedCheck(c)
	i, err := Check(c)
	depths, again := Depths(c)
	if i != at || err != want || again != want || err != api.OK && len(depths) > 0 {
		t.Fatalf("%v: %d, %d, not %d, %d", c, i, err, at, want)
	}
	return err
}

// P11.1: the last instruction of a function, and the order of the errors of instructions.
func TestCheckLast(t *testing.T) {
	for _, in := range []api.Ins{null, pop, index, test, dup, plus, falseTo(0), list(0), mapOf(), str(""), with(api.OpLoad, 0), with(api.OpStore, 0), with(api.OpCall, 0), {Op: api.OpHost, S: "now"}} {
		expect(t, codeOf(null, ret, in), 2, api.ErrState)
		expect(t, codeOf(in), 0, api.ErrState)
		// What is wrong with the stack is found later.
		expect(t, codeOf(pop, in), 1, api.ErrState)
	}
	expect(t, codeOf(null, ret, jump(0)), 0, api.OK)
	expect(t, codeOf(null, ret, ret), 0, api.OK)
	expect(t, codeOf(null, ret, api.Ins{Op: api.OpNull, A: 1}), 2, api.ErrSyntax)
	expect(t, codeOf(null, ret, falseTo(3)), 2, api.ErrSyntax)
	expect(t, codeOf(null, api.Ins{}, null), 1, api.ErrSyntax)
	expect(t, codeOf(), 0, api.ErrOrder)
	two := func(ins ...api.Ins) api.Code {
		return api.Code{Funcs: []api.CodeFunc{{Name: "a", End: 2}, {Name: "b", Entry: 2, End: 4}}, Ins: ins}
	}
	expect(t, two(null, ret, null, ret), 0, api.OK)
	expect(t, two(null, null, api.Ins{}, null), 1, api.ErrState)
	expect(t, two(null, jump(2), api.Ins{}, null), 1, api.ErrSyntax)
	expect(t, two(null, jump(1), null, jump(1)), 3, api.ErrSyntax)
	expect(t, two(null, jump(1), null, null), 3, api.ErrState)
	expect(t, two(pop, jump(1), null, null), 3, api.ErrState)
	expect(t, two(pop, jump(1), pop, ret), 0, api.ErrStack)
	expect(t, two(null, jump(1), pop, ret), 2, api.ErrStack)
	expect(t, two(null, ret, ret, ret), 2, api.ErrStack)
}

// P11.3: functions with a name, whether the code is correct or not.
func TestFind(t *testing.T) {
	c := api.Code{Funcs: []api.CodeFunc{{Name: "b"}, {Name: "a"}, {Name: ""}, {Name: "b"}, {Name: "a", Params: 3}}}
	for s, want := range map[string]int{"b": 0, "a": 1, "": 2, "c": -1, "A": -1, "ab": -1} {
		if i := Find(c, s); i != want {
			t.Errorf("%q: %d", s, i)
		}
		if i := Find(api.Code{}, s); i != -1 {
			t.Errorf("%q without functions: %d", s, i)
		}
	}
	for range 100 {
		c.Funcs = append(c.Funcs, api.CodeFunc{Name: "x"})
	}
	c.Funcs = append(c.Funcs, api.CodeFunc{Name: "last"})
	if i := Find(c, "last"); i != 105 {
		t.Error(i)
	}
}

// P11.3: every field counts, correct or not.
func TestSame(t *testing.T) {
	c := api.Code{
		Funcs: []api.CodeFunc{{Name: "a", Params: 1, Locals: 2, Entry: 3, End: 4}, {}},
		Ins:   []api.Ins{{Op: 1, A: 2, S: "s", Keys: []string{"k", "l"}}, {}, {Op: 99}},
	}
	if !Same(c, c) || !Same(c, copied(c)) || !Same(api.Code{}, api.Code{}) {
		t.Error("not the same as itself")
	}
	if !Same(api.Code{}, api.Code{Funcs: []api.CodeFunc{}, Ins: []api.Ins{}}) || !Same(codeOf(null), codeOf(api.Ins{Op: api.OpNull, Keys: []string{}})) || !Same(codeOf(api.Ins{Op: api.OpNull, Keys: []string{}}), codeOf(null)) {
		t.Error("empty lists and missing ones are not the same")
	}
	for i, spoil := range []func(d *api.Code){
		func(d *api.Code) { d.Funcs[0].Name = "b" }, func(d *api.Code) { d.Funcs[0].Params++ }, func(d *api.Code) { d.Funcs[0].Locals++ }, func(d *api.Code) { d.Funcs[0].Entry++ }, func(d *api.Code) { d.Funcs[1].End++ },
		func(d *api.Code) { d.Ins[0].Op++ }, func(d *api.Code) { d.Ins[0].A++ }, func(d *api.Code) { d.Ins[2].S = "x" }, func(d *api.Code) { d.Ins[0].Keys[1] = "m" }, func(d *api.Code) { d.Ins[0].Keys = d.Ins[0].Keys[:1] }, func(d *api.Code) { d.Ins[0].Keys = nil }, func(d *api.Code) { d.Ins[1].Keys = []string{""} },
		func(d *api.Code) { d.Ins = d.Ins[:2] }, func(d *api.Code) { d.Ins = nil }, func(d *api.Code) { d.Funcs = d.Funcs[:1] }, func(d *api.Code) { d.Funcs = nil },
		func(d *api.Code) { d.Funcs = append(d.Funcs, api.CodeFunc{}) }, func(d *api.Code) { d.Ins = append(d.Ins, api.Ins{}) },
		func(d *api.Code) { d.Ins[0], d.Ins[1] = d.Ins[1], d.Ins[0] }, func(d *api.Code) { d.Funcs[0], d.Funcs[1] = d.Funcs[1], d.Funcs[0] },
	} {
		d := copied(c)
		spoil(&d)
		if Same(c, d) || Same(d, c) {
			t.Errorf("change %d: %v is the same", i, d)
		}
	}
}
