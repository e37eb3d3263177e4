package compile

import (
	"slices"

	"faas/api"
	"faas/syntax"
)

// translator writes the translation of a function.
type translator struct {
	program api.Program
	slots   []int
	entry   int // the index of the first instruction
	ins     []api.Ins
}

// translate returns the translation of the function f of a program that passes the static checks.
func translate(p api.Program, slots []int, f, entry int) []api.Ins {
	t := &translator{program: p, slots: slots, entry: entry}
	t.node(p.Funcs[f].Body)
	t.add(api.Ins{Op: api.OpNull}, api.Ins{Op: api.OpReturn})
	return t.ins
}

func (t *translator) add(ins ...api.Ins) {
	t.ins = append(t.ins, ins...)
}

// next returns the index of the instruction that is added next.
func (t *translator) next() int {
	return t.entry + len(t.ins)
}

// jump adds an instruction whose target is not known yet. The target is the next instruction when the result is called.
func (t *translator) jump(op api.Op) func() {
	at := len(t.ins)
	t.add(api.Ins{Op: op})
	return func() { t.ins[at].A = t.next() }
}

func (t *translator) node(at int) {
	t.translation(t.program.Nodes[at])(at)
}

// translation returns the method that translates nodes such as n.
func (t *translator) translation(n api.Node) func(at int) {
	switch {
	case n.Kind == api.NdBinary && (n.Text == "and" || n.Text == "or"):
		return t.logic
	case n.Kind == api.NdIf && len(n.Kids) == 2:
		return t.condition
	case n.Kind == api.NdIf:
		return t.choice
	case n.Kind == api.NdWhile:
		return t.loop
	case n.Kind == api.NdBlock:
		return t.parts
	}
	return t.operation
}

func (t *translator) parts(at int) {
	for _, kid := range t.program.Nodes[at].Kids {
		t.node(kid)
	}
}

// operation translates a node whose parts are followed by one instruction.
func (t *translator) operation(at int) {
	t.parts(at)
	t.add(t.instruction(at))
}

// instruction returns the one that follows the parts of a node.
func (t *translator) instruction(at int) api.Ins {
	n := t.program.Nodes[at]
	count := len(n.Kids)
	switch n.Kind {
	case api.NdBool:
		return api.Ins{Op: api.OpBool, A: n.Int}
	case api.NdInt:
		return api.Ins{Op: api.OpInt, A: n.Int}
	case api.NdStr:
		return api.Ins{Op: api.OpStr, S: n.Text}
	case api.NdVar:
		return api.Ins{Op: api.OpLoad, A: t.slots[at]}
	case api.NdList:
		return api.Ins{Op: api.OpList, A: count}
	case api.NdMap:
		return api.Ins{Op: api.OpMap, A: count, Keys: slices.Clone(n.Keys)}
	case api.NdUnary:
		return api.Ins{Op: api.OpUnary, S: n.Text}
	case api.NdBinary:
		return api.Ins{Op: api.OpBinary, S: n.Text}
	case api.NdIndex:
		return api.Ins{Op: api.OpIndex}
	case api.NdCall:
		return t.call(n)
	case api.NdHost:
		return api.Ins{Op: api.OpHost, A: count, S: n.Text}
	case api.NdLet, api.NdSet:
		return api.Ins{Op: api.OpStore, A: t.slots[at]}
	case api.NdReturn:
		return api.Ins{Op: api.OpReturn}
	case api.NdDo:
		return api.Ins{Op: api.OpPop}
	}
	return api.Ins{Op: api.OpNull}
}

// call returns the instruction that calls the function of n; no function of a program has the name of a built-in one.
func (t *translator) call(n api.Node) api.Ins {
	if f := syntax.Find(t.program, n.Text); f >= 0 {
		return api.Ins{Op: api.OpCall, A: f}
	}
	return api.Ins{Op: api.OpBuilt, A: len(n.Kids), S: n.Text}
}

// logic translates an operator whose right operand replaces the left one unless that one decides.
func (t *translator) logic(at int) {
	n := t.program.Nodes[at]
	t.node(n.Kids[0])
	t.add(api.Ins{Op: api.OpTest}, api.Ins{Op: api.OpDup})
	if n.Text == "or" {
		t.add(api.Ins{Op: api.OpUnary, S: "not"})
	}
	end := t.jump(api.OpFalse)
	t.add(api.Ins{Op: api.OpPop})
	t.node(n.Kids[1])
	t.add(api.Ins{Op: api.OpTest})
	end()
}

func (t *translator) condition(at int) {
	parts := t.program.Nodes[at].Kids
	t.node(parts[0])
	end := t.jump(api.OpFalse)
	t.node(parts[1])
	end()
}

func (t *translator) choice(at int) {
	parts := t.program.Nodes[at].Kids
	t.node(parts[0])
	other := t.jump(api.OpFalse)
	t.node(parts[1])
	end := t.jump(api.OpJump)
	other()
	t.node(parts[2])
	end()
}

func (t *translator) loop(at int) {
	parts := t.program.Nodes[at].Kids
	begin := t.next()
	t.node(parts[0])
	end := t.jump(api.OpFalse)
	t.node(parts[1])
	t.add(api.Ins{Op: api.OpJump, A: begin})
	end()
}
