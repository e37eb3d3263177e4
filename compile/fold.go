package compile

import (
	"slices"

	"faas/api"
	"faas/eval"
	"faas/static"
)

// Fold returns p with constants in place of the operators with constant operands that can be evaluated.
func Fold(p api.Program) (api.Program, api.Errno) {
	if _, err := static.Check(p); err != api.OK {
		return api.Program{}, err
	}
	f := folder{old: p.Nodes}
	var funcs []api.Func
	for _, old := range p.Funcs {
		body := f.node(old.Body)
		funcs = append(funcs, api.Func{Name: old.Name, Params: slices.Clone(old.Params), Body: body})
	}
	return api.Program{Nodes: f.nodes, Funcs: funcs}, api.OK
}

// folder writes the nodes of a program again, in the same order.
type folder struct {
	old   []api.Node
	nodes []api.Node
}

// node writes an old node with all within it, and returns its new index.
func (f *folder) node(at int) int {
	n := f.old[at]
	first := len(f.nodes)
	var kids []int
	for _, kid := range n.Kids {
		kids = append(kids, f.node(kid))
	}
	if v, ok := f.value(n, kids); ok {
		f.nodes = f.nodes[:first]
		f.constant(v)
	} else {
		f.nodes = append(f.nodes, api.Node{Kind: n.Kind, Text: n.Text, Int: n.Int, Keys: slices.Clone(n.Keys), Kids: kids})
	}
	return len(f.nodes) - 1
}

// value returns the value of the operator n with the new operands kids, if they are constants and there is no error.
func (f *folder) value(n api.Node, kids []int) (api.Cell, bool) {
	if n.Kind != api.NdUnary && n.Kind != api.NdBinary {
		return api.Cell{}, false
	}
	var operands []api.Cell
	for _, kid := range kids {
		v, ok := f.operand(f.nodes[kid])
		if !ok {
			return api.Cell{}, false
		}
		operands = append(operands, v)
	}
	return operate(n.Text, operands)
}

// operand returns the value of a new node, if it is a constant.
func (f *folder) operand(n api.Node) (api.Cell, bool) {
	switch n.Kind {
	case api.NdNull:
		return api.Cell{Kind: api.Null}, true
	case api.NdBool:
		return api.Cell{Kind: api.Bool, Int: n.Int}, true
	case api.NdInt:
		return api.Cell{Kind: api.Int, Int: n.Int}, true
	case api.NdStr:
		return api.Cell{Kind: api.Str, Str: n.Text}, true
	case api.NdUnary:
		// The integer is not 0, as - 0 has become 0 before.
		if part := f.nodes[n.Kids[0]]; n.Text == "-" && part.Kind == api.NdInt {
			return api.Cell{Kind: api.Int, Int: -part.Int}, true
		}
	}
	return api.Cell{}, false
}

// operate returns the result of an operator with one operand or two, which are values of one cell, if there is no error.
func operate(op string, operands []api.Cell) (api.Cell, bool) {
	if op == "and" || op == "or" {
		return connect(op, operands[0], operands[1])
	}
	var v []api.Cell
	var err api.Errno
	if len(operands) == 1 {
		v, err = eval.Unary(op, operands)
	} else {
		v, err = eval.Binary(op, operands[:1], operands[1:])
	}
	if err != api.OK {
		return api.Cell{}, false
	}
	return v[0], true
}

// connect returns the left operand if it decides, and else the right one; the one that it returns must be a boolean.
func connect(op string, left, right api.Cell) (api.Cell, bool) {
	if left.Kind != api.Bool {
		return api.Cell{}, false
	}
	if (left.Int == 1) == (op == "or") {
		return left, true
	}
	if right.Kind != api.Bool {
		return api.Cell{}, false
	}
	return right, true
}

// constant writes the nodes of the result of an operator, which is never null.
func (f *folder) constant(v api.Cell) {
	switch v.Kind {
	case api.Bool:
		f.nodes = append(f.nodes, api.Node{Kind: api.NdBool, Int: v.Int})
	case api.Str:
		f.nodes = append(f.nodes, api.Node{Kind: api.NdStr, Text: v.Str})
	default:
		f.nodes = append(f.nodes, api.Node{Kind: api.NdInt, Int: max(v.Int, -v.Int)})
		if v.Int < 0 {
			f.nodes = append(f.nodes, api.Node{Kind: api.NdUnary, Text: "-", Kids: []int{len(f.nodes) - 1}})
		}
	}
}
