package machine

import (
	"fmt"
	"math/rand"
	"slices"
	"strings"
	"testing"

	"faas/api"
	"faas/code"
	"faas/compile"
	"faas/eval"
	"faas/syntax"
)

// writer writes random programs and codes. One of odd choices is made without regard to the kinds of values.
type writer struct {
	*rand.Rand
	odd     int
	visible []string // variables, whose first letters tell their kinds
	fresh   int      // names so far
	funcs   int
}

func (w *writer) any(l ...string) string { return l[w.Intn(len(l))] }

// The kinds of expressions: any one, boolean, integer, list, map, string.
const kindLetters = "abilms"

// templates returns the expressions of a kind. A letter behind a $ stands for an expression of that kind.
func templates(kind byte) []string {
	switch kind {
	case 'b':
		return []string{"true", "false", "not $b", "$b and $b", "$b or $b", "$a == $a", "$a != $a", "$i == $i", "$i < $i", "$i <= $i", "$s > $s", "$s >= $s", "has($m, $s)", `has($m, "a")`}
	case 'i':
		return []string{"0", "1", "2", "3", "7", "1000000000000", "- $i", "$i + $i", "$i - $i", "$i * $i", "$i / $i", "$i % $i", "len($s)", "len($l)", "len($m)", "int($s)", "int($i)", `$l[$i]`, `$m["a"]`, "@now()"}
	case 's':
		return []string{`""`, `"a"`, `"b"`, `"12"`, `"k\"\\"`, `"` + strings.Repeat("s", 120) + `"`, "$s + $s", "str($a)", "keys($m)[0]", `@secret($s)`}
	case 'l':
		return []string{"[]", "[1, 2, 3]", "[$a]", "[$a, $a]", "[$a, $a, $a]", "$l + $l", "push($l, $a)", "keys($m)", `@get($s)`}
	case 'm':
		return []string{"{}", `{"a": $a}`, `{"a": $i, "b": $a}`, "put($m, $s, $a)", `put($m, "a", $i)`, "@get($s)"}
	}
	return []string{"null", "$b", "$i", "$s", "$l", "$m", "$l[$i]", "$m[$s]", "@put($s, $a)", "@send($s, $a)", `@timer("q", $i, $a)`, "@log($a)"}
}

func (w *writer) expr(kind byte, deep int) string {
	if w.Intn(w.odd) == 0 {
		kind = kindLetters[w.Intn(len(kindLetters))]
	}
	var fitting []string
	for _, name := range w.visible {
		if name[0] == kind || kind == 'a' {
			fitting = append(fitting, name)
		}
	}
	if len(fitting) > 0 && (deep <= 0 || w.Intn(3) == 0) {
		return w.any(fitting...)
	}
	if w.Intn(150) == 0 {
		return "fail(1)"
	}
	if w.funcs > 0 && deep > 0 && w.Intn(8) == 0 {
		return w.filled(fmt.Sprint("f", w.Intn(w.funcs), "($i, $l)"), deep)
	}
	l := templates(kind)
	if deep <= 0 {
		l = slices.DeleteFunc(l, func(s string) bool { return strings.Contains(s, "$") })
	}
	return w.filled(w.any(l...), deep)
}

// filled replaces each kind of a template by an expression.
func (w *writer) filled(s string, deep int) string {
	parts := strings.Split(s, "$")
	for i, part := range parts[1:] {
		parts[i+1] = "(" + w.expr(part[0], deep-1) + ")" + part[1:]
	}
	return strings.Join(parts, "")
}

func (w *writer) block(deep int) string {
	before := len(w.visible)
	s := "{ "
	for range w.Intn(4 + deep) {
		s += w.statement(deep-1) + " "
	}
	w.visible = w.visible[:before]
	return s + "}"
}

func (w *writer) statement(deep int) string {
	kind := kindLetters[w.Intn(len(kindLetters))]
	e := w.expr(kind, w.Intn(4))
	switch choice := w.Intn(14); {
	case choice < 4:
		w.fresh++
		w.visible = append(w.visible, fmt.Sprint(string(kind), w.fresh))
		return "let " + w.visible[len(w.visible)-1] + " = " + e + ";"
	case choice < 7:
		name := w.any(w.visible...)
		return name + " = " + w.expr(name[0], 2) + ";"
	case choice < 9 && deep > 0:
		return "if " + w.expr('b', 2) + " " + w.block(deep)
	case choice < 10 && deep > 0:
		return "if " + w.expr('b', 2) + " " + w.block(deep) + " else " + w.block(deep)
	case choice < 12 && deep > 0:
		w.fresh++
		name := fmt.Sprint("i", w.fresh)
		return "let " + name + " = 0; while " + name + " < " + w.any("1", "2", "5", "40", "1000") + " { " + name + " = " + name + " + 1; if true " + w.block(deep) + " }"
	case choice < 13:
		return "return " + e + ";"
	}
	return e + ";"
}

func (w *writer) program() string {
	w.funcs = w.Intn(4)
	main := w.Intn(w.funcs + 1)
	s, f := "", 0
	for i := range w.funcs + 1 {
		if i == main {
			w.visible = []string{"ie"}
			s += "func main(ie) "
		} else {
			w.visible = []string{"ia", "lb"}
			s += fmt.Sprint("func f", f, "(ia, lb) ")
			f++
		}
		s += w.block(4) + " "
	}
	return s
}

// compiled returns a random program with its code.
func (w *writer) compiled() (api.Program, api.Code) {
	for {
		p, _, err := syntax.Parse(w.program())
		if err != api.OK {
			continue // one of the limits
		}
		if c, err := compile.Program(p); err == api.OK {
			return p, c
		}
	}
}

// answers returns random answers, most often of a kind that fits somewhere.
func (w *writer) answers(t *testing.T) []api.Answer {
	texts := []string{"null", "true", "0", "1", "2", `"a"`, `"12"`, "[1,2]", `{"a":1}`, "3", "[[]]"}
	if w.Intn(4) == 0 {
		texts = append(texts, "?", "!20", "!-5")
	}
	var l []string
	for range w.Intn(36) {
		l = append(l, w.any(texts...))
	}
	return answered(t, l...)
}

// P13.6: the machine has the outcome of the reference evaluation, with each number of answers.
func TestEvaluation(t *testing.T) {
	w := &writer{Rand: rand.New(rand.NewSource(131))}
	ends := map[string]int{}
	for i := range 3000 {
		w.odd = []int{10, 60, 1000}[i%3]
		p, c := w.compiled()
		event := cells(t, w.any("0", "1", "-7", "3", "1000000000000"))
		answers := w.answers(t)
		for k := 0; k <= len(answers); k++ {
			got := Outcome(ended(t, c, started(t, c, shown(event), most), answers[:k]...))
			want, err := eval.Run(p, event, answers[:k], 10*mostSteps)
			if err != api.OK {
				t.Fatal(err)
			}
			limited := func(o api.Outcome) bool { return o.Err == api.ErrSteps || o.Err == api.ErrMemory }
			if !limited(got) && !limited(want) && toldOutcome(got) != toldOutcome(want) {
				t.Fatalf("%s %v: %s, not %s", shown(event), answers[:k], toldOutcome(got), toldOutcome(want))
			}
			if got.Done || k == len(answers) {
				ends[fmt.Sprint(got.Done, " ", got.Err)]++
				break
			}
		}
	}
	for _, s := range []string{"true 0", "false 0", "true 2", "true 3", "true 7", "true 8", "true 9", "true 13", "true 15", "true 20", "true 21"} {
		if ends[s] < 10 {
			t.Error(s, ends)
		}
	}
}

// P13.6: programs whose outcomes are known, each way through a program.
func TestPrograms(t *testing.T) {
	for source, want := range map[string]string{
		"func main(e) { }":               "true 0 null",
		"func main(e) { return e + 1; }": "true 0 8",
		"func main(e) { let i = 0; let s = 0; while i < 5 { i = i + 1; s = s + i; } return s; }":                                     "true 0 15",
		"func main(e) { if e == 7 { return \"a\"; } else { return \"b\"; } }":                                                        `true 0 "a"`,
		"func main(e) { return false and fail(1); }":                                                                                 "true 0 false",
		"func main(e) { return true and 1; }":                                                                                        "true 7 []",
		"func main(e) { return true or fail(1); }":                                                                                   "true 0 true",
		"func main(e) { return 1 or true; }":                                                                                         "true 7 []",
		"func f(n) { if n <= 0 { return []; } return push(f(n - 1), n); } func main(e) { return f(e); }":                             "true 0 [1,2,3,4,5,6,7]",
		"func f(n) { if n <= 0 { return []; } return push(f(n - 1), n); } func main(e) { return f(e + 7); }":                         "true 0 [1,2,3,4,5,6,7,8,9,10,11,12,13,14]",
		"func f(n) { if n <= 0 { return []; } return push(f(n - 1), n); } func main(e) { return f(e + 8); }":                         "true 21 []",
		`func main(e) { @put("n", 1 + len(e)); return "done"; }`:                                                                     "true 7 []",
		`func main(e) { @put("n", 1 + e); return "done"; }`:                                                                          `true 0 "done" put("n" 8)`,
		`func main(e) { let x = @get("k"); return [x, @get("l"), @now()]; }`:                                                         `false 0 [] get("k") get("l") now()`,
		"func main(e) { while true { } }":                                                                                            "true 15 []",
		`func main(e) { let l = []; while true { l = push(l, 1); if len(l) > 190 { f(l); } } } func f(l) { let k = l; main(f(l)); }`: "true 16 []",
		`func main(e) { let l = []; while true { l = push(l, 1); } }`:                                                                "true 3 []",
	} {
		p, _, err := syntax.Parse(source)
		if err != api.OK {
			t.Fatal(source, err)
		}
		c, err := compile.Program(p)
		if err != api.OK {
			t.Fatal(source, err)
		}
		got := toldOutcome(Outcome(ended(t, c, started(t, c, "7", most), answered(t, "null", "2")...)))
		if got != want {
			t.Errorf("%s: %s, not %s", source, got, want)
		}
	}
}

// P13.1, P13.2, P13.4, P13.7: random programs with random limits, step by step, and run in parts.
func TestRandomPrograms(t *testing.T) {
	w := &writer{Rand: rand.New(rand.NewSource(132))}
	ends := map[string]int{}
	for i := range 3000 {
		w.odd = []int{20, 100, 1000}[i%3]
		_, c := w.compiled()
		event := cells(t, w.any("0", "1", "3", "[1]"))
		l := api.Limits{Steps: 1 + w.Intn([]int{30, 400}[i%2]), Memory: 1 + w.Intn([]int{40, 200, mostMemory}[w.Intn(3)])}
		answers := w.answers(t)
		if i%4 == 0 {
			answers = nil
		}
		m := checkTrace(t, c, event, l, answers)
		ends[fmt.Sprint(m.Status, " ", m.Err)]++
		checkParts(t, w, c, started(t, c, shown(event), l), answers, m)
	}
	for _, s := range []string{"2 0", "3 0", "4 7", "4 15", "4 16", "4 20"} {
		if ends[s] < 20 {
			t.Error(s, ends)
		}
	}
}

// checkParts runs a machine in parts up to the last one, and compares two parts with one.
func checkParts(t *testing.T, w *writer, c api.Code, m api.Machine, answers []api.Answer, last api.Machine) {
	t.Helper()
	for {
		a, b := w.Intn(40), w.Intn(40)
		whole := Run(c, m, a+b)
		if m = Run(c, Run(c, m, a), b); !Same(m, whole) || told(m) != told(whole) {
			t.Fatal(a, b, told(m), told(whole))
		}
		if m.Status == api.StWaiting && len(answers) > 0 {
			m, _ = Answer(m, answers[0])
			answers = answers[1:]
		} else if m.Status != api.StRunning {
			break
		}
	}
	if told(m) != told(last) {
		t.Fatal(told(m), told(last))
	}
}

// code returns a random code that passes the verification.
func (w *writer) code() api.Code {
	for {
		var c api.Code
		for f := range 1 + w.Intn(3) {
			params := w.Intn(3)
			name := fmt.Sprint("f", f)
			if f == 0 {
				params, name = 1, "main"
			}
			entry := len(c.Ins)
			locals := params + w.Intn(3)
			w.body(&c, locals)
			c.Funcs = append(c.Funcs, api.CodeFunc{Name: name, Params: params, Locals: locals, Entry: entry, End: len(c.Ins)})
		}
		if _, err := code.Check(c); err == api.OK {
			return c
		}
	}
}

// body adds the instructions of a function to c. It counts the values on the stack, and lets OpFalse lead back to where there are as many.
func (w *writer) body(c *api.Code, locals int) {
	entry := len(c.Ins)
	var depths []int
	depth := 0
	add := func(in api.Ins, behind int) {
		c.Ins = append(c.Ins, in)
		depths = append(depths, depth)
		depth = behind
	}
	size := 3 + w.Intn(30)
	for len(depths) < size || depth == 0 {
		in := w.instruction(locals)
		pops, pushes := effect(in)
		if pops > depth {
			continue
		}
		if in.Op == api.OpFalse {
			in.A = w.Intn(len(depths))
			if depths[in.A] != depth-1 {
				continue
			}
			in.A += entry
		}
		add(in, depth-pops+pushes)
	}
	for depth > 1 {
		add(api.Ins{Op: api.OpPop}, depth-1)
	}
	add(api.Ins{Op: api.OpReturn}, 0)
}

func (w *writer) instruction(locals int) api.Ins {
	in := instruction(strings.Fields(w.any(
		"null", "bool 0", "bool 1", "int 1", "int 2", "str a", "load", "load", "load", "store", "store", "store", "pop",
		"unary -", "unary not", "binary +", "binary ==", "index", "list 0", "list 1", "list 2", "list 3", "map 0", "map 1 a", "map 2 a b",
		"false 0", "test", "dup", "dup", "call 0", "call 1", "call 2", "built 1 str", "built 1 len", "built 2 push", "host 0 now", "host 2 put")))
	if in.Op == api.OpLoad || in.Op == api.OpStore {
		in.A = w.Intn(max(locals, 1))
	}
	return in
}

// effect returns how many values an instruction pops and pushes. For a call it is a guess, as the function may not be there yet.
func effect(in api.Ins) (pops, pushes int) {
	switch in.Op {
	case api.OpStore, api.OpPop, api.OpFalse:
		return 1, 0
	case api.OpUnary, api.OpTest:
		return 1, 1
	case api.OpDup:
		return 1, 2
	case api.OpBinary, api.OpIndex:
		return 2, 1
	case api.OpList, api.OpMap, api.OpBuilt, api.OpHost:
		return in.A, 1
	case api.OpCall:
		return []int{1, 0, 2}[in.A], 1
	}
	return 0, 1
}

// P13.1, P13.2, P13.4, P13.7: random codes, which need not be translations of programs.
func TestRandomCodes(t *testing.T) {
	w := &writer{Rand: rand.New(rand.NewSource(133))}
	ends := map[string]int{}
	for i := range 6000 {
		c := w.code()
		event := cells(t, w.any("0", "true", "[1,2]", `"a"`, "null"))
		l := api.Limits{Steps: 1 + w.Intn(200), Memory: 1 + w.Intn([]int{20, 300}[i%2])}
		answers := w.answers(t)
		if i%4 == 0 {
			answers = nil
		}
		m := checkTrace(t, c, event, l, answers)
		ends[fmt.Sprint(m.Status, " ", m.Err)]++
		checkParts(t, w, c, started(t, c, shown(event), l), answers, m)
	}
	for _, s := range []string{"2 0", "3 0", "4 7", "4 15", "4 16", "4 21"} {
		if ends[s] < 20 {
			t.Error(s, ends)
		}
	}
}
