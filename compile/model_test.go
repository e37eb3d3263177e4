package compile

import (
	"slices"
	"testing"

	"faas/api"
	"faas/code"
	"faas/eval"
	"faas/static"
	"faas/syntax"
)

// The limits of DOC.md.
const mostCode, mostInt = 4000, 1000000000000

// parsed returns the program with this source.
func parsed(t *testing.T, s string) api.Program {
	t.Helper()
	p, at, err := syntax.Parse(s)
	if err != api.OK {
		t.Fatalf("%s: %d %d", s, at, err)
	}
	return p
}

// mainOf returns a program whose main has this body.
func mainOf(body string) string { return "func main(e) { " + body + " }" }

func copyProgram(p api.Program) api.Program {
	p.Nodes, p.Funcs = slices.Clone(p.Nodes), slices.Clone(p.Funcs)
	for i := range p.Nodes {
		n := &p.Nodes[i]
		n.Keys, n.Kids = slices.Clone(n.Keys), slices.Clone(n.Kids)
	}
	for i := range p.Funcs {
		p.Funcs[i].Params = slices.Clone(p.Funcs[i].Params)
	}
	return p
}

func copyInstructions(ins []api.Ins) []api.Ins {
	ins = slices.Clone(ins)
	for i := range ins {
		ins[i].Keys = slices.Clone(ins[i].Keys)
	}
	return ins
}

func sameInstructions(a, b []api.Ins) bool {
	return code.Same(api.Code{Ins: a}, api.Code{Ins: b})
}

// model reads the table of the chapter row by row: the lengths of the parts come first, and the targets follow from them.
type model struct {
	api.Program
	slots []int
}

func (m model) length(i int) int {
	n := m.Nodes[i]
	sum := 0
	for _, kid := range n.Kids {
		sum += m.length(kid)
	}
	switch {
	case n.Kind == api.NdBlock:
		return sum
	case n.Kind == api.NdBinary && n.Text == "and":
		return sum + 5
	case n.Kind == api.NdBinary && n.Text == "or":
		return sum + 6
	case n.Kind == api.NdWhile, n.Kind == api.NdIf && len(n.Kids) == 3:
		return sum + 2
	}
	return sum + 1
}

// node returns the translation of a node, whose first instruction is at.
func (m model) node(i, at int) []api.Ins {
	n := m.Nodes[i]
	var begins []int // of the parts, if they follow one another
	after := at
	for _, kid := range n.Kids {
		begins = append(begins, after)
		after += m.length(kid)
	}
	after = at + m.length(i)
	one := func(op api.Op, a int) []api.Ins { return []api.Ins{{Op: op, A: a}} }
	moved := func(k, by int) []api.Ins { return m.node(n.Kids[k], begins[k]+by) }
	switch {
	case n.Kind == api.NdBinary && n.Text == "and":
		return slices.Concat(moved(0, 0), one(api.OpTest, 0), one(api.OpDup, 0), one(api.OpFalse, after), one(api.OpPop, 0), moved(1, 4), one(api.OpTest, 0))
	case n.Kind == api.NdBinary && n.Text == "or":
		return slices.Concat(moved(0, 0), one(api.OpTest, 0), one(api.OpDup, 0), []api.Ins{{Op: api.OpUnary, S: "not"}}, one(api.OpFalse, after), one(api.OpPop, 0), moved(1, 5), one(api.OpTest, 0))
	case n.Kind == api.NdIf && len(n.Kids) == 2:
		return slices.Concat(moved(0, 0), one(api.OpFalse, after), moved(1, 1))
	case n.Kind == api.NdIf:
		return slices.Concat(moved(0, 0), one(api.OpFalse, begins[2]+2), moved(1, 1), one(api.OpJump, after), moved(2, 2))
	case n.Kind == api.NdWhile:
		return slices.Concat(moved(0, 0), one(api.OpFalse, after), moved(1, 1), one(api.OpJump, at))
	}
	var ins []api.Ins
	for k := range n.Kids {
		ins = append(ins, moved(k, 0)...)
	}
	switch n.Kind {
	case api.NdNull:
		return one(api.OpNull, 0)
	case api.NdBool:
		return one(api.OpBool, n.Int)
	case api.NdInt:
		return one(api.OpInt, n.Int)
	case api.NdStr:
		return []api.Ins{{Op: api.OpStr, S: n.Text}}
	case api.NdVar:
		return one(api.OpLoad, m.slots[i])
	case api.NdList:
		return append(ins, one(api.OpList, len(n.Kids))...)
	case api.NdMap:
		return append(ins, api.Ins{Op: api.OpMap, A: len(n.Kids), Keys: n.Keys})
	case api.NdUnary:
		return append(ins, api.Ins{Op: api.OpUnary, S: n.Text})
	case api.NdBinary:
		return append(ins, api.Ins{Op: api.OpBinary, S: n.Text})
	case api.NdIndex:
		return append(ins, one(api.OpIndex, 0)...)
	case api.NdCall:
		for f := range m.Funcs {
			if m.Funcs[f].Name == n.Text {
				return append(ins, one(api.OpCall, f)...)
			}
		}
		return append(ins, api.Ins{Op: api.OpBuilt, A: len(n.Kids), S: n.Text})
	case api.NdHost:
		return append(ins, api.Ins{Op: api.OpHost, A: len(n.Kids), S: n.Text})
	case api.NdLet, api.NdSet:
		return append(ins, one(api.OpStore, m.slots[i])...)
	case api.NdReturn:
		return append(ins, one(api.OpReturn, 0)...)
	case api.NdDo:
		return append(ins, one(api.OpPop, 0)...)
	}
	return ins
}

func (m model) function(f, entry int) []api.Ins {
	return append(m.node(m.Funcs[f].Body, entry), api.Ins{Op: api.OpNull}, api.Ins{Op: api.OpReturn})
}

// modelCode returns the code of a program that passes the static checks.
func modelCode(p api.Program) api.Code {
	slots, _ := static.Slots(p)
	m := model{p, slots}
	var c api.Code
	for f := range p.Funcs {
		locals, _ := static.Locals(p, f)
		entry := len(c.Ins)
		c.Ins = append(c.Ins, m.function(f, entry)...)
		c.Funcs = append(c.Funcs, api.CodeFunc{Name: p.Funcs[f].Name, Params: len(p.Funcs[f].Params), Locals: locals, Entry: entry, End: len(c.Ins)})
	}
	return c
}

// tree is a node with its parts.
type tree struct {
	api.Node
	parts []*tree
}

func treeOf(nodes []api.Node, i int) *tree {
	x := &tree{Node: nodes[i]}
	for _, kid := range nodes[i].Kids {
		x.parts = append(x.parts, treeOf(nodes, kid))
	}
	return x
}

// append adds the nodes of x in the order of layer 8.
func (x *tree) append(nodes []api.Node) []api.Node {
	n := x.Node
	n.Kids = nil
	for _, part := range x.parts {
		nodes = part.append(nodes)
		n.Kids = append(n.Kids, len(nodes)-1)
	}
	return append(nodes, n)
}

// inOrder calls f for the nodes of x in their order, until f returns true.
func (x *tree) inOrder(f func(x *tree) bool) bool {
	for _, part := range x.parts {
		if part.inOrder(f) {
			return true
		}
	}
	return f(x)
}

func (x *tree) isConstant() bool {
	switch x.Kind {
	case api.NdNull, api.NdBool, api.NdInt, api.NdStr:
		return true
	}
	return x.Kind == api.NdUnary && x.Text == "-" && x.parts[0].Kind == api.NdInt && x.parts[0].Int > 0
}

// replaced makes x the constant that is its value, if there are constants and no error. The value is that of a program which returns it.
func (x *tree) replaced() bool {
	if x.isConstant() || x.Kind != api.NdUnary && x.Kind != api.NdBinary {
		return false
	}
	for _, part := range x.parts {
		if !part.isConstant() {
			return false
		}
	}
	nodes := x.append(nil)
	nodes = append(nodes, api.Node{Kind: api.NdReturn, Kids: []int{len(nodes) - 1}}, api.Node{Kind: api.NdBlock, Kids: []int{len(nodes)}})
	p := api.Program{Nodes: nodes, Funcs: []api.Func{{Name: "main", Params: []string{"e"}, Body: len(nodes) - 1}}}
	o, err := eval.Run(p, []api.Cell{{Kind: api.Null}}, nil, 100)
	if err != api.OK {
		panic(err)
	}
	if o.Err != api.OK {
		return false
	}
	*x = *constant(o.Value[0])
	return true
}

func constant(v api.Cell) *tree {
	switch {
	case v.Kind == api.Null:
		return &tree{Node: api.Node{Kind: api.NdNull}}
	case v.Kind == api.Bool:
		return &tree{Node: api.Node{Kind: api.NdBool, Int: v.Int}}
	case v.Kind == api.Str:
		return &tree{Node: api.Node{Kind: api.NdStr, Text: v.Str}}
	case v.Int < 0:
		return &tree{api.Node{Kind: api.NdUnary, Text: "-"}, []*tree{constant(api.Cell{Kind: api.Int, Int: -v.Int})}}
	}
	return &tree{Node: api.Node{Kind: api.NdInt, Int: v.Int}}
}

// modelFold replaces one node after the other, and begins anew each time.
func modelFold(p api.Program) api.Program {
	var q api.Program
	for _, f := range p.Funcs {
		x := treeOf(p.Nodes, f.Body)
		for x.inOrder((*tree).replaced) {
		}
		q.Nodes = x.append(q.Nodes)
		q.Funcs = append(q.Funcs, api.Func{Name: f.Name, Params: f.Params, Body: len(q.Nodes) - 1})
	}
	return q
}

// checkAll checks what all functions return for p, and returns the errors of the static checks and of Program.
func checkAll(t *testing.T, p api.Program) (api.Errno, api.Errno) {
	t.Helper()
	before := copyProgram(p)
	_, err := static.Check(p)
	c, compiled := Program(p)
	length, err2 := Length(p)
	folded, err3 := Fold(p)
	if err2 != err || err3 != err {
		t.Fatalf("%v: errors %d %d, not %d", p, err2, err3, err)
	}
	if err != api.OK {
		checkRejected(t, p, err)
		if compiled != err || len(c.Funcs)+len(c.Ins)+length+len(folded.Nodes)+len(folded.Funcs) != 0 {
			t.Fatal(p, c, compiled, length, folded)
		}
		return err, compiled
	}
	want := modelCode(p)
	if length != len(want.Ins) { // P12.3
		t.Fatal(p, length, len(want.Ins))
	}
	_, expected := code.Check(want)
	if expected != api.OK {
		want = api.Code{}
	}
	if compiled != expected || !code.Same(c, want) { // P12.1
		t.Fatalf("%v: %v %d, not %v %d", p, c, compiled, want, expected)
	}
	checkFunctions(t, p)
	checkFolded(t, p, folded)
	if compiled == api.OK {
		checkCode(t, p, c)
		spoilCode(c)
	}
	spoilProgram(folded)
	if !syntax.Same(p, before) { // R3
		t.Fatal("the argument was changed", p, before)
	}
	return err, compiled
}

// P12.2: an error of the static checks comes before ErrRange.
func checkRejected(t *testing.T, p api.Program, err api.Errno) {
	t.Helper()
	for _, f := range []int{-1, 0, len(p.Funcs)} {
		for _, entry := range []int{-1, 0, mostCode + 1} {
			if ins, got := Function(p, f, entry); got != err || len(ins) != 0 {
				t.Fatal(p, f, entry, ins, got)
			}
		}
	}
}

// P12.2: all functions with entries at the edges.
func checkFunctions(t *testing.T, p api.Program) {
	t.Helper()
	slots, _ := static.Slots(p)
	m := model{p, slots}
	for f := -1; f <= len(p.Funcs); f++ {
		for _, entry := range []int{-1, 0, 10, mostCode, mostCode + 1} {
			ins, err := Function(p, f, entry)
			if f < 0 || f == len(p.Funcs) || entry < 0 || entry > mostCode {
				if err != api.ErrRange || len(ins) != 0 {
					t.Fatal(p, f, entry, ins, err)
				}
				continue
			}
			if want := m.function(f, entry); err != api.OK || !sameInstructions(ins, want) {
				t.Fatalf("%v, function %d from %d on: %v %d, not %v", p, f, entry, ins, err, want)
			}
			spoilCode(api.Code{Ins: ins})
		}
	}
}

// P12.5, P12.6: the consequences for the code of p.
func checkCode(t *testing.T, p api.Program, c api.Code) {
	t.Helper()
	at, err := code.Check(c)
	length, _ := Length(p)
	if at != 0 || err != api.OK || len(c.Funcs) != len(p.Funcs) || length != len(c.Ins) {
		t.Fatal(p, c, at, err, length)
	}
	for f, fn := range c.Funcs {
		ins, err := Function(p, f, fn.Entry)
		if err != api.OK || !sameInstructions(ins, c.Ins[fn.Entry:fn.End]) {
			t.Fatal(p, c, f, ins, err)
		}
		if fn.Name != p.Funcs[f].Name || fn.Params != len(p.Funcs[f].Params) {
			t.Fatal(p, c, f)
		}
	}
}

// P12.4, P12.7: what Fold returns, and the consequences.
func checkFolded(t *testing.T, p, folded api.Program) {
	t.Helper()
	if want := modelFold(p); !syntax.Same(folded, want) {
		t.Fatalf("%v: folded to %v, not %v", p, folded, want)
	}
	again, err := Fold(folded)
	if err != api.OK || !syntax.Same(again, folded) {
		t.Fatal(p, folded, again, err)
	}
	if _, err := static.Check(folded); err != api.OK || len(folded.Nodes) > len(p.Nodes) || len(folded.Funcs) != len(p.Funcs) {
		t.Fatal(p, folded, err)
	}
	for f, fn := range folded.Funcs {
		if fn.Name != p.Funcs[f].Name || !slices.Equal(fn.Params, p.Funcs[f].Params) {
			t.Fatal(p, folded)
		}
	}
}

// spoilCode and spoilProgram change all memory of a result, which is new.
func spoilCode(c api.Code) {
	for i := range c.Ins {
		for k := range c.Ins[i].Keys {
			c.Ins[i].Keys[k] = "?"
		}
		c.Ins[i] = api.Ins{}
	}
	clear(c.Funcs)
}

func spoilProgram(p api.Program) {
	for i := range p.Nodes {
		n := &p.Nodes[i]
		clear(n.Kids)
		clear(n.Keys)
		n.Kind = 0
	}
	for i := range p.Funcs {
		clear(p.Funcs[i].Params)
		p.Funcs[i].Name = ""
	}
}
