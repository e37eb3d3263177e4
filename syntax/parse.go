package syntax

import (
	"slices"

	"faas/api"
	"faas/lex"
)

// Parse returns the program of s. With an error it returns the offset of the error instead.
func Parse(s string) (p api.Program, at int, err api.Errno) {
	tokens, at, err := lex.Tokens(s)
	if err != api.OK {
		return api.Program{}, at, err
	}
	// A token of no kind, which fits nowhere, stands for the end of the text.
	r := reader{tokens: append(tokens, api.Token{At: len(s)})}
	defer func() {
		if recover() != nil {
			p, at, err = api.Program{}, r.tokens[0].At, api.ErrSyntax
		}
	}()
	p = r.program()
	if err := Check(p); err != api.OK {
		return api.Program{}, 0, err
	}
	return p, 0, api.OK
}

// reader turns tokens into the nodes of a program. Those of its methods that are named after a part of the grammar read it and return the index of its node. A method that comes upon a token that does not fit panics and leaves it unread.
type reader struct {
	tokens []api.Token // those that are still to be read
	nodes  []api.Node
}

// take reads any token.
func (r *reader) take() api.Token {
	t := r.tokens[0]
	r.tokens = r.tokens[1:]
	return t
}

// sees reports whether the next token is one of these keywords or symbols.
func (r *reader) sees(texts ...string) bool {
	t := r.tokens[0]
	return (t.Kind == api.TkWord || t.Kind == api.TkSymbol) && slices.Contains(texts, t.Text)
}

// accept reads a keyword or symbol, if it is the next token.
func (r *reader) accept(text string) bool {
	if !r.sees(text) {
		return false
	}
	r.take()
	return true
}

// expect reads a keyword or symbol that must be the next token.
func (r *reader) expect(text string) {
	if !r.accept(text) {
		panic(api.ErrSyntax)
	}
}

// name reads a NAME.
func (r *reader) name() string {
	if r.tokens[0].Kind != api.TkName {
		panic(api.ErrSyntax)
	}
	return r.take().Text
}

// items reads items with commas between them, and what closes their list.
func (r *reader) items(closing string, item func()) {
	if r.accept(closing) {
		return
	}
	item()
	for r.accept(",") {
		item()
	}
	r.expect(closing)
}

// add completes a node.
func (r *reader) add(n api.Node) int {
	r.nodes = append(r.nodes, n)
	return len(r.nodes) - 1
}

func (r *reader) program() api.Program {
	var funcs []api.Func
	for r.accept("func") {
		funcs = append(funcs, r.function())
	}
	if r.tokens[0].Kind != api.NoToken {
		panic(api.ErrSyntax)
	}
	return api.Program{Nodes: r.nodes, Funcs: funcs}
}

// function reads a function whose keyword is read already.
func (r *reader) function() api.Func {
	f := api.Func{Name: r.name()}
	r.expect("(")
	r.items(")", func() {
		f.Params = append(f.Params, r.name())
	})
	f.Body = r.block()
	return f
}

func (r *reader) block() int {
	n := api.Node{Kind: api.NdBlock}
	r.expect("{")
	for !r.accept("}") {
		n.Kids = append(n.Kids, r.statement())
	}
	return r.add(n)
}

func (r *reader) statement() int {
	switch {
	case r.accept("let"):
		return r.assignment(api.NdLet)
	case r.seesAssignment():
		return r.assignment(api.NdSet)
	case r.accept("if"):
		return r.branch(api.NdIf)
	case r.accept("while"):
		return r.branch(api.NdWhile)
	case r.accept("return"):
		return r.ending(api.Node{Kind: api.NdReturn})
	}
	return r.ending(api.Node{Kind: api.NdDo})
}

// seesAssignment reports whether a name and the symbol = follow.
func (r *reader) seesAssignment() bool {
	if r.tokens[0].Kind != api.TkName {
		return false
	}
	// What follows a name is at least the end of the text.
	return r.tokens[1].Kind == api.TkSymbol && r.tokens[1].Text == "="
}

func (r *reader) assignment(kind api.NodeKind) int {
	n := api.Node{Kind: kind, Text: r.name()}
	r.expect("=")
	return r.ending(n)
}

// ending reads the expression and the semicolon at the end of a statement.
func (r *reader) ending(n api.Node) int {
	n.Kids = []int{r.expr()}
	r.expect(";")
	return r.add(n)
}

// branch reads an if or a while whose keyword is read already.
func (r *reader) branch(kind api.NodeKind) int {
	condition := r.expr()
	n := api.Node{Kind: kind, Kids: []int{condition, r.block()}}
	if kind == api.NdIf && r.accept("else") {
		n.Kids = append(n.Kids, r.block())
	}
	return r.add(n)
}
