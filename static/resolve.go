package static

import (
	"slices"

	"faas/api"
	"faas/ident"
	"faas/syntax"
)

const (
	mainName = "main"
	noNode   = -1 // the index of a node where an error belongs to none
)

// variables are those of a program that passes Check.
type variables struct {
	slots  []int // of each node
	locals []int // how many each function has
}

// resolve checks a program and finds its variables. With an error it returns the index that Check does.
func resolve(p api.Program) (variables, int, api.Errno) {
	if err := syntax.Check(p); err != api.OK {
		return variables{}, noNode, err
	}
	if at, err := checkFuncs(p); err != api.OK {
		return variables{}, at, err
	}
	if at, err := checkMain(p); err != api.OK {
		return variables{}, at, err
	}
	return resolveNodes(p)
}

// checkFuncs finds names that are used twice.
func checkFuncs(p api.Program) (int, api.Errno) {
	for i, f := range p.Funcs {
		_, builtin := Builtin(f.Name)
		if builtin || syntax.Find(p, f.Name) < i || hasTwice(f.Params) {
			return f.Body, api.ErrExists
		}
	}
	return 0, api.OK
}

func hasTwice(names []string) bool {
	return len(ident.Sorted(names)) < len(names)
}

func checkMain(p api.Program) (int, api.Errno) {
	i := syntax.Find(p, mainName)
	if i < 0 {
		return noNode, api.ErrNone
	}
	if len(p.Funcs[i].Params) != 1 {
		return p.Funcs[i].Body, api.ErrType
	}
	return 0, api.OK
}

// resolveNodes finds the variables, and what is wrong with single nodes.
func resolveNodes(p api.Program) (variables, int, api.Errno) {
	var found variables
	for f := range p.Funcs {
		s := newScope(p.Funcs[f].Params)
		for i := firstNode(p, f); i <= p.Funcs[f].Body; i++ {
			slot, err := visit(p, s, p.Nodes[i])
			if err != api.OK {
				return variables{}, i, err
			}
			found.slots = append(found.slots, slot)
		}
		found.locals = append(found.locals, s.count)
	}
	return found, 0, api.OK
}

// visit checks a node and returns the slot of its variable.
func visit(p api.Program, s *scope, n api.Node) (int, api.Errno) {
	switch n.Kind {
	case api.NdVar, api.NdSet:
		return s.find(n.Text)
	case api.NdLet:
		return s.declare(n.Text)
	case api.NdCall:
		wanted, ok := paramsOf(p, n.Text)
		return noSlot, checkArguments(n, wanted, ok)
	case api.NdHost:
		wanted, ok := HostOp(n.Text)
		return noSlot, checkArguments(n, wanted, ok)
	case api.NdBlock:
		s.leave(p.Nodes, n.Kids)
	}
	return noSlot, api.OK
}

// paramsOf returns the number of parameters of a function of the program or a built-in one, and whether there is one of this name.
func paramsOf(p api.Program, name string) (int, bool) {
	if f := syntax.Find(p, name); f >= 0 {
		return len(p.Funcs[f].Params), true
	}
	return Builtin(name)
}

// checkArguments checks the node of a call whose target takes the wanted number of arguments, if it is known.
func checkArguments(n api.Node, wanted int, known bool) api.Errno {
	if !known {
		return api.ErrName
	}
	if len(n.Kids) != wanted {
		return api.ErrType
	}
	return api.OK
}

// firstNode returns the index of the first node of the function f, which stands behind the block of the one before.
func firstNode(p api.Program, f int) int {
	if f == 0 {
		return 0
	}
	return p.Funcs[f-1].Body + 1
}

func hasFunction(p api.Program, f int) bool {
	return 0 <= f && f < len(p.Funcs)
}

// callsOf returns what Calls does for a function of a program that passes Check.
func callsOf(p api.Program, f int) []int {
	var called []int
	for _, n := range p.Nodes[firstNode(p, f) : p.Funcs[f].Body+1] {
		if n.Kind != api.NdCall {
			continue
		}
		if callee := syntax.Find(p, n.Text); callee >= 0 {
			called = append(called, callee)
		}
	}
	slices.Sort(called)
	return slices.Compact(called)
}
