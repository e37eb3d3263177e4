package eval

import (
	"fmt"
	"math/rand"
	"slices"
	"strings"
	"testing"

	"faas/api"
	"faas/syntax"
)

// writer writes random programs that pass the static checks. An expression is written for a kind that its place wants; one of odd choices is made for another kind.
type writer struct {
	*rand.Rand
	strings.Builder
	odd     int
	visible []variable
	fresh   int // names so far
	funcs   int
}

type variable struct {
	name string
	kind api.Kind
}

var kinds = []api.Kind{api.Null, api.Bool, api.Int, api.Str, api.List, api.Map}

func (w *writer) put(l ...string) {
	for _, s := range l {
		w.WriteString(s)
	}
}

func (w *writer) any(l ...string) string { return l[w.Intn(len(l))] }

func (w *writer) kind() api.Kind { return kinds[w.Intn(len(kinds))] }

// list writes expressions, with what stands before and behind them.
func (w *writer) list(open, end string, deep int, kinds ...api.Kind) {
	w.put(open)
	for i, k := range kinds {
		if i > 0 {
			w.put(", ")
		}
		w.expr(k, deep-1)
	}
	w.put(end)
}

func (w *writer) literal(kind api.Kind) string {
	switch kind {
	case api.Bool:
		return w.any("true", "false")
	case api.Int:
		return w.any("0", "1", "2", "3", "7", "1000000", "1000000000000")
	case api.Str:
		return w.any(`""`, `"a"`, `"12"`, `"and"`, `"or"`, `"k\"\\"`, `"`+strings.Repeat("s", 90)+`"`)
	case api.List:
		return w.any("[]", "[1, 2, 3]", `["a", [true], null]`)
	case api.Map:
		return w.any("{}", `{"a": 1}`, `{"a": [], "b": {"a": 0}}`)
	}
	return "null"
}

func (w *writer) expr(kind api.Kind, deep int) {
	if w.Intn(w.odd) == 0 {
		kind = w.kind()
	}
	var fitting []string
	for _, v := range w.visible {
		if v.kind == kind {
			fitting = append(fitting, v.name)
		}
	}
	switch choice := w.Intn(10); {
	case len(fitting) > 0 && (choice < 3 || deep <= 0):
		w.put(w.any(fitting...))
	case choice == 3 || deep <= 0:
		w.put(w.literal(kind))
	case choice == 4:
		w.list(w.any(`@get`, `@secret`, `@log`)+"(", ")", deep, w.kind())
	case choice == 5 && w.funcs > 0:
		w.list("f"+fmt.Sprint(w.Intn(w.funcs))+"(", ")", deep, api.Int, w.kind())
	case choice == 6:
		w.list("", "", deep, api.List)
		w.list("[", "]", deep, api.Int)
	case choice == 7:
		w.list("", "[", deep, api.Map)
		w.put(w.any(`"a"`, `"b"`, `""`), "]")
	default:
		w.made(kind, deep)
	}
}

// made writes an operation whose result has the kind.
func (w *writer) made(kind api.Kind, deep int) {
	k := w.kind()
	number := []api.Kind{api.Int, api.Str}[w.Intn(2)]
	group := []api.Kind{api.Str, api.List, api.Map}[w.Intn(3)]
	switch kind {
	case api.Bool:
		switch w.Intn(5) {
		case 0:
			w.list("(not ", ")", deep, api.Bool)
		case 1:
			w.infix(w.any("and", "or"), deep, api.Bool, api.Bool)
		case 2:
			w.infix(w.any("==", "!="), deep, k, k)
		case 3:
			w.list("has(", ")", deep, api.Map, api.Str)
		default:
			w.infix(w.any("<", "<=", ">", ">="), deep, number, number)
		}
	case api.Int:
		switch w.Intn(6) {
		case 0:
			w.list("(-", ")", deep, api.Int)
		case 1:
			w.list("len(", ")", deep, group)
		case 2:
			w.list("int(", ")", deep, number)
		default:
			w.infix(w.any("+", "-", "*", "/", "%"), deep, api.Int, api.Int)
		}
	case api.Str:
		if w.Intn(2) == 0 {
			w.list("str(", ")", deep, k)
		} else {
			w.infix("+", deep, api.Str, api.Str)
		}
	case api.List:
		switch w.Intn(4) {
		case 0:
			w.list("[", "]", deep, kinds[w.Intn(6):]...)
		case 1:
			w.list("push(", ")", deep, api.List, k)
		case 2:
			w.list("keys(", ")", deep, api.Map)
		default:
			w.infix("+", deep, api.List, api.List)
		}
	case api.Map:
		if w.Intn(2) == 0 {
			w.list("put(", ")", deep, api.Map, api.Str, k)
		} else {
			w.list(`{"a": `, `, "k\\": 0}`, deep, k)
		}
	default:
		w.put(w.any("null", "null", "null", "fail(1)"))
	}
}

func (w *writer) infix(op string, deep int, left, right api.Kind) {
	w.list("(", " "+op+" ", deep, left)
	w.list("", ")", deep, right)
}

func (w *writer) block(deep int) {
	before := len(w.visible)
	w.put("{ ")
	for range w.Intn(3 + deep) {
		w.statement(deep - 1)
	}
	w.put("} ")
	w.visible = w.visible[:before]
}

func (w *writer) statement(deep int) {
	size := w.Intn(4)
	switch choice := w.Intn(16); {
	case choice < 4:
		w.fresh++
		v := variable{fmt.Sprint("v", w.fresh), w.kind()}
		w.list("let "+v.name+" = ", "; ", size, v.kind)
		w.visible = append(w.visible, v)
	case choice < 8:
		v := w.visible[w.Intn(len(w.visible))]
		w.list(v.name+" = ", "; ", size, v.kind)
	case choice < 9:
		w.grow(w.visible[w.Intn(len(w.visible))])
	case choice < 11 && deep > 0:
		w.list("if ", " ", size, api.Bool)
		w.block(deep)
		if w.Intn(2) == 0 {
			w.put("else ")
			w.block(deep)
		}
	case choice < 13 && deep > 0:
		w.loop(deep)
	case choice < 14:
		w.list("return ", "; ", size, w.kind())
	default:
		w.list("", "; ", size, w.kind())
	}
}

// grow writes statements that lead to the limits of values if they are repeated.
func (w *writer) grow(v variable) {
	switch v.kind {
	case api.Int:
		w.put(v.name, " = ", v.name, w.any(" + ", " * "), v.name, "; ")
	case api.Str:
		w.put(v.name, " = ", v.name, ` + "x" + `, v.name, "; ")
	case api.List:
		w.put(v.name, " = ", w.any("["+v.name+"]", v.name+" + [1] + "+v.name), "; ")
	case api.Map:
		w.put(v.name, ` = {"a": `, v.name, "}; ")
	default:
		w.put("@now(); ")
	}
}

// loop writes a loop that most often ends after some turns.
func (w *writer) loop(deep int) {
	if w.Intn(4) == 0 {
		w.list("while ", " ", 2, api.Bool)
		w.block(deep)
		return
	}
	w.fresh++
	i := fmt.Sprint("i", w.fresh)
	w.put("let ", i, " = 0; while ", i, " < ", w.any("0", "1", "2", "10", "50"), " { ", i, " = ", i, " + 1; ")
	if w.Intn(3) == 0 {
		w.grow(w.visible[w.Intn(len(w.visible))])
	}
	w.put("if true ")
	w.visible = append(w.visible, variable{i, api.Int})
	w.block(deep)
	w.put("} ")
}

func (w *writer) program() string {
	w.Reset()
	w.funcs = w.Intn(4)
	main := w.Intn(w.funcs + 1)
	for i := range w.funcs + 1 {
		w.visible = []variable{{"a", api.Int}, {"b", w.kind()}}
		switch {
		case i == main:
			w.visible = []variable{{"e", api.Int}}
			w.put("func main(e) ")
		case i < main:
			w.put("func f", fmt.Sprint(i), "(a, b) ")
		default:
			w.put("func f", fmt.Sprint(i-1), "(a, b) ")
		}
		w.block(4)
	}
	return w.String()
}

// answers returns random answers, most often of a kind that fits somewhere.
func (w *writer) answers(t *testing.T) []api.Answer {
	texts := []string{"null", "true", "false", "0", "1", "2", `"a"`, `"12"`, "[1,2]", `{"a":1}`, "3", `"b"`}
	if w.Intn(3) == 0 {
		texts = append(texts, "?", "!20", "!5")
	}
	var l []string
	for range w.Intn(34) {
		l = append(l, w.any(texts...))
	}
	return answered(t, l...)
}

// P10.5, P10.6: random programs with random events, answers and fuel; answers one by one, and fuel up to what is needed.
func TestRandom(t *testing.T) {
	w := &writer{Rand: rand.New(rand.NewSource(101))}
	outcomes := map[string]int{}
	for i := range 15000 {
		w.odd = []int{10, 100, 100000}[i%3]
		source := w.program()
		p, _, err := syntax.Parse(source)
		if err != api.OK {
			continue // one of the limits
		}
		event := cells(t, w.any("0", "1", "-7", "2", "1000000000000"))
		answers := w.answers(t)
		fuel := []int{50, 300, 3000}[w.Intn(3)]
		o, err := Run(p, event, answers, fuel)
		if err == api.ErrLimit {
			continue // too many variables
		}
		got, want := told(o), modelRun(p, event, answers, fuel)
		if err != api.OK || got != want {
			t.Fatalf("%s\n%s %v %d: %d %s, not %s", source, shown(event), answers, fuel, err, got, want)
		}
		outcomes[strings.Fields(got)[0]+fmt.Sprint(int(o.Err))]++
		checkMore(t, p, event, answers, fuel, o)
	}
	for _, s := range []string{"value0", "waits0", "error2", "error3", "error5", "error7", "error8", "error9", "error13", "error15", "error20"} {
		if outcomes[s] < 20 {
			t.Error(s, outcomes)
		}
	}
}

// checkMore checks that fewer answers and other fuel lead to an outcome that fits this one.
func checkMore(t *testing.T, p api.Program, event []api.Cell, answers []api.Answer, fuel int, o api.Outcome) {
	t.Helper()
	run := func(answers []api.Answer, fuel int) api.Outcome {
		o, err := Run(p, event, answers, fuel)
		if err != api.OK {
			t.Fatal(err)
		}
		return o
	}
	last := api.Outcome{}
	for k := range len(answers) + 1 {
		next := run(answers[:k], fuel)
		if last.Done && told(next) != told(last) {
			t.Fatal(told(last), told(next))
		}
		if !last.Done && k > 0 && !slices.EqualFunc(last.Requests, next.Requests[:len(last.Requests)], sameRequest) {
			t.Fatal(told(last), told(next))
		}
		last = next
		if next.Done {
			break
		}
	}
	if told(last) != told(o) {
		t.Fatal(told(last), told(o))
	}
	more := append(slices.Clone(answers), answered(t, "1", "!3", "?")...)
	if o.Done && told(run(more, fuel)) != told(o) {
		t.Fatal(told(o))
	}
	if o.Err != api.ErrSteps && told(run(answers, fuel+1)) != told(o) {
		t.Fatal(told(o))
	}
}

func sameRequest(a, b api.Request) bool {
	return a.Op == b.Op && slices.EqualFunc(a.Args, b.Args, slices.Equal)
}
