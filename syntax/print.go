package syntax

import (
	"strings"

	"faas/api"
	"faas/lex"
)

// Print returns the text of p.
func Print(p api.Program) (string, api.Errno) {
	if err := Check(p); err != api.OK {
		return "", err
	}
	text := ""
	for _, f := range p.Funcs {
		text += "func " + f.Name + "(" + strings.Join(f.Params, ", ") + ") " + tree(p.Nodes).block(f.Body, "") + "\n"
	}
	// Each token of the text is proper, so this is about its length and their number only.
	if _, _, err := lex.Tokens(text); err != api.OK {
		return "", err
	}
	return text, api.OK
}

// tree is the nodes of a program that passes Check. Its methods return the texts of nodes.
type tree []api.Node

// block writes the node i, a block that stands in a line with this indent.
func (t tree) block(i int, indent string) string {
	text := "{\n"
	inner := indent + "\t"
	for _, kid := range t[i].Kids {
		text += inner + t.statement(kid, inner) + "\n"
	}
	return text + indent + "}"
}

// statement writes the node i, a statement with this indent in front of it.
func (t tree) statement(i int, indent string) string {
	n := t[i]
	value := t.expression(n.Kids[0], orLevel)
	switch n.Kind {
	case api.NdLet:
		return "let " + n.Text + " = " + value + ";"
	case api.NdSet:
		return n.Text + " = " + value + ";"
	case api.NdIf:
		text := "if " + value + " " + t.block(n.Kids[1], indent)
		if len(n.Kids) == 3 {
			text += " else " + t.block(n.Kids[2], indent)
		}
		return text
	case api.NdWhile:
		return "while " + value + " " + t.block(n.Kids[1], indent)
	case api.NdReturn:
		return "return " + value + ";"
	}
	return value + ";"
}

// expression writes the node i, an expression in a place that requires the level.
func (t tree) expression(i, required int) string {
	if levelOf(t[i]) < required {
		return "(" + t.bare(t[i]) + ")"
	}
	return t.bare(t[i])
}

// bare writes an expression without parentheses around it.
func (t tree) bare(n api.Node) string {
	switch n.Kind {
	case api.NdList:
		return "[" + t.list(n) + "]"
	case api.NdMap:
		return "{" + t.list(n) + "}"
	case api.NdUnary:
		return t.unary(n)
	case api.NdBinary:
		left, right := operandLevels(levelOf(n))
		return t.expression(n.Kids[0], left) + " " + n.Text + " " + t.expression(n.Kids[1], right)
	case api.NdIndex:
		return t.expression(n.Kids[0], indexLevel) + "[" + t.expression(n.Kids[1], orLevel) + "]"
	case api.NdCall:
		return n.Text + "(" + t.list(n) + ")"
	case api.NdHost:
		return tokenText(api.TkHost, n) + "(" + t.list(n) + ")"
	}
	return literal(n)
}

func (t tree) unary(n api.Node) string {
	operand := t.expression(n.Kids[0], unaryLevel(n.Text))
	if n.Text == "not" {
		return "not " + operand
	}
	return "-" + operand
}

// list writes the parts of n and, if it is a map, their keys.
func (t tree) list(n api.Node) string {
	texts := make([]string, len(n.Kids))
	for i, kid := range n.Kids {
		texts[i] = t.expression(kid, orLevel)
		if n.Kind == api.NdMap {
			texts[i] = stringText(n.Keys[i]) + ": " + texts[i]
		}
	}
	return strings.Join(texts, ", ")
}

// literal writes an expression that has no parts.
func literal(n api.Node) string {
	switch n.Kind {
	case api.NdBool:
		if n.Int == 0 {
			return "false"
		}
		return "true"
	case api.NdInt:
		return tokenText(api.TkInt, n)
	case api.NdStr:
		return stringText(n.Text)
	case api.NdVar:
		return n.Text
	}
	return "null"
}

func stringText(s string) string {
	return tokenText(api.TkStr, api.Node{Text: s})
}

// tokenText writes the token of the kind that n consists of or begins with. Check has made sure that there is one.
func tokenText(kind api.TokenKind, n api.Node) string {
	text, _ := lex.Text(api.Token{Kind: kind, Text: n.Text, Int: n.Int})
	return text
}
