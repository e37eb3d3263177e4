package syntax

import (
	"slices"

	"faas/api"
	"faas/lex"
)

// isProper reports whether p is a program, apart from its limits.
func isProper(p api.Program) bool {
	roots, ok := rootsOf(p.Nodes)
	if !ok || len(roots) != len(p.Funcs) {
		return false
	}
	for i, f := range p.Funcs {
		if f.Body != roots[i] || p.Nodes[f.Body].Kind != api.NdBlock {
			return false
		}
		if !isName(f.Name) || slices.ContainsFunc(f.Params, isNoName) {
			return false
		}
	}
	return true
}

// rootsOf returns the nodes that are no parts of others, if all nodes are as they should be and stand in their order.
func rootsOf(nodes []api.Node) ([]int, bool) {
	var open []int // what the next node can have as parts: the last ones
	for i, n := range nodes {
		first := len(open) - len(n.Kids)
		if first < 0 || !slices.Equal(open[first:], n.Kids) {
			return nil, false
		}
		if !textFits(n) || !intFits(n) || !keysFit(n) || !partsFit(n.Kind, rolesOf(nodes, n.Kids)) {
			return nil, false
		}
		open = append(open[:first], i)
	}
	return open, true
}

func textFits(n api.Node) bool {
	switch n.Kind {
	case api.NdStr:
		return isString(n.Text)
	case api.NdVar, api.NdCall, api.NdLet, api.NdSet:
		return isName(n.Text)
	case api.NdHost:
		return isToken(api.Token{Kind: api.TkHost, Text: n.Text})
	case api.NdUnary:
		return n.Text == "-" || n.Text == "not"
	case api.NdBinary:
		return binaryLevel(n.Text) != noLevel
	}
	return n.Text == ""
}

func intFits(n api.Node) bool {
	switch n.Kind {
	case api.NdBool:
		return n.Int == 0 || n.Int == 1
	case api.NdInt:
		return isToken(api.Token{Kind: api.TkInt, Int: n.Int})
	}
	return n.Int == 0
}

func keysFit(n api.Node) bool {
	if n.Kind != api.NdMap {
		return len(n.Keys) == 0
	}
	if len(n.Keys) != len(n.Kids) {
		return false
	}
	for i, key := range n.Keys {
		if !isString(key) || i > 0 && key <= n.Keys[i-1] {
			return false
		}
	}
	return true
}

func isString(s string) bool {
	return isToken(api.Token{Kind: api.TkStr, Text: s})
}

func isName(s string) bool {
	return isToken(api.Token{Kind: api.TkName, Text: s})
}

func isNoName(s string) bool {
	return !isName(s)
}

func isToken(t api.Token) bool {
	_, err := lex.Text(t)
	return err == api.OK
}

// role is what a node is to the one that it is a part of.
type role int

const (
	noRole role = iota
	expression
	statement
	block
)

func roleOf(kind api.NodeKind) role {
	switch {
	case api.NdNull <= kind && kind <= api.NdHost:
		return expression
	case api.NdLet <= kind && kind <= api.NdDo:
		return statement
	case kind == api.NdBlock:
		return block
	}
	return noRole
}

func rolesOf(nodes []api.Node, kids []int) []role {
	roles := make([]role, len(kids))
	for i, kid := range kids {
		roles[i] = roleOf(nodes[kid].Kind)
	}
	return roles
}

// partsFit reports whether a node of the kind can have parts with these roles.
func partsFit(kind api.NodeKind, roles []role) bool {
	switch kind {
	case api.NdNull, api.NdBool, api.NdInt, api.NdStr, api.NdVar:
		return len(roles) == 0
	case api.NdList, api.NdMap, api.NdCall, api.NdHost:
		return areAll(roles, expression)
	case api.NdUnary, api.NdLet, api.NdSet, api.NdReturn, api.NdDo:
		return are(roles, expression)
	case api.NdBinary, api.NdIndex:
		return are(roles, expression, expression)
	case api.NdIf:
		return are(roles, expression, block) || are(roles, expression, block, block)
	case api.NdWhile:
		return are(roles, expression, block)
	case api.NdBlock:
		return areAll(roles, statement)
	}
	return false
}

func are(roles []role, wanted ...role) bool {
	return slices.Equal(roles, wanted)
}

func areAll(roles []role, wanted role) bool {
	return !slices.ContainsFunc(roles, func(r role) bool {
		return r != wanted
	})
}

func hasManyParams(funcs []api.Func) bool {
	return slices.ContainsFunc(funcs, func(f api.Func) bool {
		return len(f.Params) > api.MaxParams
	})
}

// nesting returns the nesting of a proper program. As each node belongs to the block of a function, no way within one is longer than those from such a block.
func nesting(nodes []api.Node) int {
	greatest := 0
	depths := make([]int, len(nodes))
	for i, n := range nodes {
		for _, kid := range n.Kids {
			depths[i] = max(depths[i], depths[kid])
		}
		depths[i]++
		greatest = max(greatest, depths[i])
	}
	return greatest
}
