package static

import (
	"maps"
	"math/rand"
	"slices"
	"strings"
	"testing"

	"faas/api"
	"faas/syntax"
)

// writer writes random programs whose functions are f0, f1 .., or main, with few errors.
type writer struct {
	*rand.Rand
	strings.Builder
	funcs   []api.Func
	visible []string
	odd     int // one of how many choices of a name or number is made without regard to what is right
}

func (w *writer) put(l ...string) {
	for _, s := range l {
		w.WriteString(s)
	}
}

func (w *writer) any(l ...string) string { return l[w.Intn(len(l))] }

func (w *writer) isOdd() bool { return w.Intn(w.odd) == 0 }

func (w *writer) variable() string {
	if w.isOdd() || len(w.visible) == 0 {
		return w.any("a", "b", "c", "d", "e", "main", "len")
	}
	return w.any(w.visible...)
}

// fresh returns a name that is not visible.
func (w *writer) fresh() string {
	for range 20 {
		if s := w.any("a", "b", "c", "d", "e", "f0", "put", "now", "g", "h", "i", "j"); w.isOdd() || !slices.Contains(w.visible, s) {
			return s
		}
	}
	return "z"
}

func (w *writer) expr(deep int) {
	if deep <= 0 {
		w.put(w.any("1", "null", "\"e\"", w.variable(), w.variable(), w.variable()))
		return
	}
	switch w.Intn(9) {
	case 0:
		w.put("[")
		w.list(w.Intn(3), deep)
		w.put("]")
	case 1:
		w.put("{\"a\": ")
		w.expr(deep - 1)
		w.put(", \"len\": ")
		w.expr(deep - 1)
		w.put("}")
	case 2:
		w.put("(")
		w.expr(deep - 1)
		w.put(w.any("+", " and ", "==", "/"))
		w.expr(deep - 1)
		w.put(")")
	case 3:
		w.put("(", w.any("-", "not "))
		w.expr(deep - 1)
		w.put(")[")
		w.expr(deep - 1)
		w.put("]")
	case 4:
		w.call("", slices.Sorted(maps.Keys(builtins)), builtins, deep)
	case 5:
		w.call("@", slices.Sorted(maps.Keys(hostOps)), hostOps, deep)
	case 6, 7:
		f := w.funcs[w.Intn(len(w.funcs))]
		w.call("", []string{f.Name}, map[string]int{f.Name: len(f.Params)}, deep)
	default:
		w.expr(0)
	}
}

func (w *writer) call(sign string, names []string, counts map[string]int, deep int) {
	name := w.any(names...)
	n := counts[name]
	if w.isOdd() {
		name = w.any("a", "nix", "get", "len", "f1")
	}
	if w.isOdd() {
		n = w.Intn(4)
	}
	w.put(sign, name, "(")
	w.list(n, deep)
	w.put(")")
}

func (w *writer) list(n, deep int) {
	for i := range n {
		if i > 0 {
			w.put(", ")
		}
		w.expr(deep - 1)
	}
}

func (w *writer) block(deep int) {
	before := len(w.visible)
	w.put("{ ")
	for range w.Intn(4) {
		w.statement(deep - 1)
	}
	w.put("} ")
	w.visible = w.visible[:before]
}

func (w *writer) statement(deep int) {
	size := w.Intn(3)
	switch kind := w.Intn(9); {
	case kind < 3:
		name := w.fresh()
		w.put("let ", name, " = ")
		w.expr(size)
		w.put("; ")
		w.visible = append(w.visible, name)
	case kind < 4:
		w.put(w.variable(), " = ")
		w.expr(size)
		w.put("; ")
	case kind < 6 && deep > 0:
		w.put("if ")
		w.expr(size)
		w.block(deep)
		if w.Intn(2) == 0 {
			w.put("else ")
			w.block(deep)
		}
	case kind < 7 && deep > 0:
		w.put("while ")
		w.expr(size)
		w.block(deep)
	default:
		w.put(w.any("", "return "))
		w.expr(size)
		w.put("; ")
	}
}

func (w *writer) program() string {
	w.Reset()
	n := 1 + w.Intn(4)
	main := w.Intn(n)
	w.funcs = nil
	for i := range n {
		f := api.Func{Name: "f" + string(rune('0'+i)), Params: []string{"e", "a", "b"}[:w.Intn(4)]}
		if i == main && !w.isOdd() {
			f = api.Func{Name: "main", Params: []string{"e"}}
		}
		if w.isOdd() {
			f.Name = w.any("f0", "f1", "main", "len", "get")
		}
		if w.isOdd() {
			f.Params = append(slices.Clone(f.Params), w.any("a", "e", "f"))
		}
		w.funcs = append(w.funcs, f)
	}
	for _, f := range w.funcs {
		w.put("func ", f.Name, "(", strings.Join(f.Params, ", "), ") ")
		w.visible = slices.Clone(f.Params)
		w.block(4)
	}
	return w.String()
}

// P9.1 to P9.8: random programs, all results.
func TestRandom(t *testing.T) {
	w := &writer{Rand: rand.New(rand.NewSource(91))}
	outcomes := map[api.Errno]int{}
	for i := range 10000 {
		w.odd = []int{20, 100, 100000}[i%3]
		p, _, err := syntax.Parse(w.program())
		if err != api.OK {
			continue // one of the limits
		}
		outcomes[checkAll(t, p)]++
	}
	if outcomes[api.OK] < 3000 || outcomes[api.ErrName] < 1000 || outcomes[api.ErrExists] < 200 || outcomes[api.ErrType] < 200 || outcomes[api.ErrNone] < 100 {
		t.Error(outcomes)
	}
}

// P9.1, P9.3: random programs without errors but for the limit of variables.
func TestRandomLocals(t *testing.T) {
	w := &writer{Rand: rand.New(rand.NewSource(92)), odd: 100000}
	outcomes := map[api.Errno]int{}
	for range 3000 {
		w.Reset()
		w.funcs = []api.Func{{Name: "main", Params: []string{"e"}}}
		w.put("func main(e) { ")
		w.visible = []string{"e"}
		for range 28 + w.Intn(8) {
			switch w.Intn(6) {
			case 0:
				w.put("if e { let y = e; e = y; } ")
			case 1:
				w.put("while e { let y = e; if y { let z = y; } let z = y; } ")
			default:
				w.put("if e { } else { let x = e; x; } ")
			}
		}
		w.put("} ")
		p, _, err := syntax.Parse(w.String())
		if err != api.OK {
			t.Fatal(err)
		}
		outcomes[checkAll(t, p)]++
	}
	if outcomes[api.OK] < 10 || outcomes[api.ErrLimit] < 1000 {
		t.Error(outcomes)
	}
}

// P9.1: random programs with changes of nodes, names and functions.
func TestRandomChanges(t *testing.T) {
	w := &writer{Rand: rand.New(rand.NewSource(93)), odd: 100000}
	outcomes := map[api.Errno]int{}
	for range 10000 {
		p, _, err := syntax.Parse(w.program())
		if err != api.OK {
			continue
		}
		for range 1 + w.Intn(2) {
			n, f := &p.Nodes[w.Intn(len(p.Nodes))], &p.Funcs[w.Intn(len(p.Funcs))]
			switch w.Intn(10) {
			case 0:
				n.Kind = api.NodeKind(w.Intn(21))
			case 1, 2, 3:
				if n.Text != "" {
					n.Text = w.any("a", "b", "e", "f0", "main", "len", "put", "now", "nix", "z")
				}
			case 4, 5:
				f.Name = w.any("f0", "f1", "main", "len", "put", "A")
			case 6:
				f.Params = append(f.Params, w.any("a", "b", "z"))
			case 7:
				f.Body += w.Intn(3) - 1
			case 8:
				if len(n.Kids) > 0 {
					n.Kids[w.Intn(len(n.Kids))] += w.Intn(3) - 1
				}
			case 9:
				p.Nodes = p.Nodes[:w.Intn(len(p.Nodes)+1)]
				if len(p.Nodes) == 0 {
					p = api.Program{Nodes: []api.Node{{Kind: api.NdBlock}}, Funcs: []api.Func{{Name: "f"}}}
				}
			}
		}
		outcomes[checkAll(t, p)]++
	}
	for _, err := range []api.Errno{api.OK, api.ErrSyntax, api.ErrExists, api.ErrNone, api.ErrName, api.ErrType} {
		if outcomes[err] < 200 {
			t.Error(outcomes)
		}
	}
}

// P9.1, P9.3: all short bodies of statements and blocks over two names.
func TestShortBodies(t *testing.T) {
	pieces := []string{"let x = e;", "let y = x;", "x = y;", "x;", "let e = x;", "if e {", "while x {", "} else {", "}"}
	outcomes := map[api.Errno]int{}
	var extend func(body string, open []bool, left int)
	extend = func(body string, open []bool, left int) {
		closed := body + strings.Repeat("}", len(open))
		p, _, err := syntax.Parse("func main(e) {" + closed + "}")
		if err != api.OK {
			t.Fatalf("%s: %d", closed, err)
		}
		outcomes[checkAll(t, p)]++
		if left == 0 {
			return
		}
		for _, s := range pieces {
			inner := slices.Clone(open) // whether an else may follow, for each open block
			switch s {
			case "if e {", "while x {":
				inner = append(inner, s == "if e {")
			case "} else {":
				if len(open) == 0 || !open[len(open)-1] {
					continue
				}
				inner[len(inner)-1] = false
			case "}":
				if len(open) == 0 {
					continue
				}
				inner = inner[:len(inner)-1]
			}
			extend(body+s, inner, left-1)
		}
	}
	extend("", nil, 5)
	if outcomes[api.OK] < 500 || outcomes[api.ErrName] < 5000 || outcomes[api.ErrExists] < 1000 {
		t.Error(outcomes)
	}
}

// P9.1: all short lists of functions, with and without a node that is wrong.
func TestShortFunctions(t *testing.T) {
	var funcs []string
	for _, name := range []string{"main", "f", "g", "len", "get"} {
		for _, params := range []string{"", "a", "a, b", "a, a", "a, b, a"} {
			for _, body := range []string{"", "x;", "let a = f();"} {
				funcs = append(funcs, "func "+name+"("+params+") {"+body+"} ")
			}
		}
	}
	outcomes := map[api.Errno]int{}
	check := func(s string) {
		p, _, err := syntax.Parse(s)
		if err != api.OK {
			t.Fatalf("%s: %d", s, err)
		}
		outcomes[checkAll(t, p)]++
	}
	check("")
	for i, f := range funcs {
		check(f)
		for j, g := range funcs {
			check(f + g)
			for k := (i + j) % 7; k < len(funcs); k += 7 {
				check(f + g + funcs[k])
			}
		}
	}
	for _, err := range []api.Errno{api.OK, api.ErrExists, api.ErrNone, api.ErrName, api.ErrType} {
		if outcomes[err] < 40 {
			t.Error(outcomes)
		}
	}
}
