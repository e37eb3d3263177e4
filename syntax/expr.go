package syntax

import "faas/api"

func (r *reader) expr() int {
	return r.chain(r.and, "or")
}

func (r *reader) and() int {
	return r.chain(r.not, "and")
}

func (r *reader) not() int {
	if !r.accept("not") {
		return r.cmp()
	}
	return r.add(api.Node{Kind: api.NdUnary, Text: "not", Kids: []int{r.not()}})
}

func (r *reader) cmp() int {
	left := r.sum()
	if !r.sees("==", "!=", "<", "<=", ">", ">=") {
		return left
	}
	return r.binary(left, r.sum)
}

func (r *reader) sum() int {
	return r.chain(r.term, "+", "-")
}

func (r *reader) term() int {
	return r.chain(r.unary, "*", "/", "%")
}

// chain reads operands with these operators between them.
func (r *reader) chain(operand func() int, operators ...string) int {
	left := operand()
	for r.sees(operators...) {
		left = r.binary(left, operand)
	}
	return left
}

// binary reads an operator and its right operand.
func (r *reader) binary(left int, operand func() int) int {
	operator := r.take().Text
	return r.add(api.Node{Kind: api.NdBinary, Text: operator, Kids: []int{left, operand()}})
}

func (r *reader) unary() int {
	if !r.accept("-") {
		return r.post()
	}
	return r.add(api.Node{Kind: api.NdUnary, Text: "-", Kids: []int{r.unary()}})
}

func (r *reader) post() int {
	value := r.prim()
	for r.accept("[") {
		index := r.expr()
		r.expect("]")
		value = r.add(api.Node{Kind: api.NdIndex, Kids: []int{value, index}})
	}
	return value
}

func (r *reader) prim() int {
	switch r.tokens[0].Kind {
	case api.TkInt:
		return r.add(api.Node{Kind: api.NdInt, Int: r.take().Int})
	case api.TkStr:
		return r.add(api.Node{Kind: api.NdStr, Text: r.take().Text})
	case api.TkName:
		return r.nameOrCall()
	case api.TkHost:
		n := api.Node{Kind: api.NdHost, Text: r.take().Text}
		r.expect("(")
		return r.group(n, ")")
	}
	switch {
	case r.accept("null"):
		return r.add(api.Node{Kind: api.NdNull})
	case r.accept("false"):
		return r.add(api.Node{Kind: api.NdBool})
	case r.accept("true"):
		return r.add(api.Node{Kind: api.NdBool, Int: 1})
	case r.accept("["):
		return r.group(api.Node{Kind: api.NdList}, "]")
	case r.accept("{"):
		return r.pairs()
	case r.accept("("):
		inner := r.expr()
		r.expect(")")
		return inner
	}
	panic(api.ErrSyntax)
}

func (r *reader) nameOrCall() int {
	name := r.name()
	if !r.accept("(") {
		return r.add(api.Node{Kind: api.NdVar, Text: name})
	}
	return r.group(api.Node{Kind: api.NdCall, Text: name}, ")")
}

// group reads the expressions of a node whose opening bracket is read already.
func (r *reader) group(n api.Node, closing string) int {
	r.items(closing, func() {
		n.Kids = append(n.Kids, r.expr())
	})
	return r.add(n)
}

// pairs reads a map whose opening brace is read already.
func (r *reader) pairs() int {
	n := api.Node{Kind: api.NdMap}
	r.items("}", func() {
		n.Keys = append(n.Keys, r.keyAfter(n.Keys))
		r.expect(":")
		n.Kids = append(n.Kids, r.expr())
	})
	return r.add(n)
}

// keyAfter reads the key that follows others.
func (r *reader) keyAfter(keys []string) string {
	t := r.tokens[0]
	if t.Kind != api.TkStr || len(keys) > 0 && t.Text <= keys[len(keys)-1] {
		panic(api.ErrSyntax)
	}
	return r.take().Text
}
