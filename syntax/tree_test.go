package syntax

import (
	"math/rand"
	"slices"
	"strconv"
	"strings"

	"faas/api"
)

// The limits, as the chapters say them.
const (
	mostNodes    = 600
	mostFuncs    = 16
	mostParams   = 8
	mostNesting  = 32
	mostBytes    = 4000
	mostTokens   = 1000
	longestName  = 24
	longestStr   = 200
	greatestInt  = 1000000000000
	names        = "a b c x_1 _ lets main"
	comparisons  = "== != < <= > >="
	allOperators = "or and == != < <= > >= + - * / %"
)

// shape is a node with its parts.
type shape struct {
	kind api.NodeKind
	text string
	n    int
	keys []string
	kids []*shape
}

// function is a function with its block.
type function struct {
	name   string
	params []string
	body   *shape
}

func one(kind api.NodeKind, text string, kids ...*shape) *shape {
	return &shape{kind: kind, text: text, kids: kids}
}

// flat appends the nodes of x behind those of its parts, and returns its index.
func flat(nodes *[]api.Node, x *shape) int {
	n := api.Node{Kind: x.kind, Text: x.text, Int: x.n, Keys: slices.Clone(x.keys)}
	for _, kid := range x.kids {
		n.Kids = append(n.Kids, flat(nodes, kid))
	}
	*nodes = append(*nodes, n)
	return len(*nodes) - 1
}

func programOf(funcs ...function) api.Program {
	var p api.Program
	for _, f := range funcs {
		p.Funcs = append(p.Funcs, api.Func{Name: f.name, Params: slices.Clone(f.params), Body: flat(&p.Nodes, f.body)})
	}
	return p
}

// inMain returns the program of the function main without parameters and these statements.
func inMain(statements ...*shape) api.Program {
	return programOf(function{"main", nil, one(api.NdBlock, "", statements...)})
}

// height returns the greatest number of nodes on a way from x down.
func height(x *shape) int {
	n := 0
	for _, kid := range x.kids {
		n = max(n, height(kid))
	}
	return n + 1
}

// The levels and what the places require, as the chapter says them.
var (
	levels   = map[string]int{"or": 1, "and": 2, "==": 4, "!=": 4, "<": 4, "<=": 4, ">": 4, ">=": 4, "+": 5, "-": 5, "*": 6, "/": 6, "%": 6}
	required = map[string][2]int{"or": {1, 2}, "and": {2, 3}, "==": {5, 5}, "!=": {5, 5}, "<": {5, 5}, "<=": {5, 5}, ">": {5, 5}, ">=": {5, 5}, "+": {5, 6}, "-": {5, 6}, "*": {6, 7}, "/": {6, 7}, "%": {6, 7}}
)

func level(x *shape) int {
	switch {
	case x.kind == api.NdBinary:
		return levels[x.text]
	case x.kind == api.NdUnary && x.text == "not":
		return 3
	case x.kind == api.NdUnary:
		return 7
	case x.kind == api.NdIndex:
		return 8
	}
	return 9
}

// written returns the text of an expression in a place that requires a level.
func written(x *shape, place int) string {
	if level(x) < place {
		return "(" + written(x, 1) + ")"
	}
	switch x.kind {
	case api.NdNull:
		return "null"
	case api.NdBool:
		return strconv.FormatBool(x.n == 1)
	case api.NdInt:
		return strconv.Itoa(x.n)
	case api.NdStr:
		return quoted(x.text)
	case api.NdVar:
		return x.text
	case api.NdUnary:
		return map[string]string{"-": "-", "not": "not "}[x.text] + written(x.kids[0], level(x))
	case api.NdBinary:
		return written(x.kids[0], required[x.text][0]) + " " + x.text + " " + written(x.kids[1], required[x.text][1])
	case api.NdIndex:
		return written(x.kids[0], 8) + "[" + written(x.kids[1], 1) + "]"
	}
	var parts []string
	for i, kid := range x.kids {
		part := written(kid, 1)
		if x.kind == api.NdMap {
			part = quoted(x.keys[i]) + ": " + part
		}
		parts = append(parts, part)
	}
	inner := strings.Join(parts, ", ")
	switch x.kind {
	case api.NdList:
		return "[" + inner + "]"
	case api.NdMap:
		return "{" + inner + "}"
	case api.NdHost:
		return "@" + x.text + "(" + inner + ")"
	}
	return x.text + "(" + inner + ")"
}

func quoted(s string) string {
	return `"` + strings.NewReplacer(`"`, `\"`, `\`, `\\`).Replace(s) + `"`
}

// lines returns the lines of a statement or block, without those of the blocks around it.
func lines(x *shape) []string {
	blocks := map[api.NodeKind]int{api.NdIf: 1, api.NdWhile: 1, api.NdBlock: 0}
	first, ok := blocks[x.kind]
	if !ok {
		start := map[api.NodeKind]string{api.NdLet: "let " + x.text + " = ", api.NdSet: x.text + " = ", api.NdReturn: "return "}[x.kind]
		return []string{start + written(x.kids[0], 1) + ";"}
	}
	if x.kind == api.NdBlock {
		l := []string{"{"}
		for _, kid := range x.kids {
			for _, line := range lines(kid) {
				l = append(l, "\t"+line)
			}
		}
		return append(l, "}")
	}
	l := []string{map[api.NodeKind]string{api.NdIf: "if ", api.NdWhile: "while "}[x.kind] + written(x.kids[0], 1) + " "}
	for i, kid := range x.kids[first:] {
		if i > 0 {
			l[len(l)-1] += " else "
		}
		inner := lines(kid)
		l[len(l)-1] += inner[0]
		l = append(l, inner[1:]...)
	}
	return l
}

// wantedText returns the text of the functions.
func wantedText(funcs []function) string {
	s := ""
	for _, f := range funcs {
		s += "func " + f.name + "(" + strings.Join(f.params, ", ") + ") " + strings.Join(lines(f.body), "\n") + "\n"
	}
	return s
}

// writer makes random programs: the tokens of a text, and the functions that it has by the grammar.
type writer struct {
	*rand.Rand
	tokens []string
	deep   int // how much deeper it may go
}

func (w *writer) put(tokens ...string) {
	w.tokens = append(w.tokens, tokens...)
}

func (w *writer) name() string {
	l := strings.Fields(names)
	s := l[w.Intn(len(l))]
	w.put(s)
	return s
}

func (w *writer) str() string {
	return []string{"", "a", "b", " ", `"`, `\`, "//", "func", "~ {}", strings.Repeat("s", longestStr)}[w.Intn(10)]
}

// often reports true n times of m, unless the text is deep or long enough.
func (w *writer) often(n, m int) bool {
	return w.deep > 0 && len(w.tokens) < mostTokens && w.Intn(m) < n
}

func (w *writer) program() []function {
	var l []function
	for range w.Intn(4) {
		w.put("func")
		f := function{name: w.name()}
		w.put("(")
		for i := range w.Intn(4) {
			if i > 0 {
				w.put(",")
			}
			f.params = append(f.params, w.name())
		}
		w.put(")")
		f.body = w.block()
		l = append(l, f)
	}
	return l
}

func (w *writer) block() *shape {
	w.put("{")
	x := one(api.NdBlock, "")
	w.deep--
	for w.often(2, 3) {
		x.kids = append(x.kids, w.statement())
	}
	w.deep++
	w.put("}")
	return x
}

func (w *writer) statement() *shape {
	x := one([]api.NodeKind{api.NdLet, api.NdSet, api.NdIf, api.NdWhile, api.NdReturn, api.NdDo}[w.Intn(6)], "")
	switch x.kind {
	case api.NdLet:
		w.put("let")
		x.text = w.name()
		w.put("=")
	case api.NdSet:
		x.text = w.name()
		w.put("=")
	case api.NdIf:
		w.put("if")
	case api.NdWhile:
		w.put("while")
	case api.NdReturn:
		w.put("return")
	}
	x.kids = append(x.kids, w.expr())
	if x.kind != api.NdIf && x.kind != api.NdWhile {
		w.put(";")
		return x
	}
	x.kids = append(x.kids, w.block())
	if x.kind == api.NdIf && w.Intn(2) == 0 {
		w.put("else")
		x.kids = append(x.kids, w.block())
	}
	return x
}

// row makes operands with operators between them, at most so many.
func (w *writer) row(operand func() *shape, operators string, most int) *shape {
	x := operand()
	for range most {
		if !w.often(1, 8) {
			break
		}
		l := strings.Fields(operators)
		operator := l[w.Intn(len(l))]
		w.put(operator)
		x = one(api.NdBinary, operator, x, operand())
	}
	return x
}

func (w *writer) expr() *shape {
	w.deep--
	defer func() { w.deep++ }()
	return w.row(w.and, "or", 3)
}

func (w *writer) and() *shape { return w.row(w.not, "and", 3) }

func (w *writer) not() *shape {
	if w.often(1, 6) {
		w.put("not")
		return one(api.NdUnary, "not", w.not())
	}
	return w.row(w.sum, comparisons, 1)
}

func (w *writer) sum() *shape  { return w.row(w.term, "+ -", 3) }
func (w *writer) term() *shape { return w.row(w.unary, "* / %", 3) }

func (w *writer) unary() *shape {
	if w.often(1, 6) {
		w.put("-")
		return one(api.NdUnary, "-", w.unary())
	}
	x := w.prim()
	for w.often(1, 6) {
		w.put("[")
		x = one(api.NdIndex, "", x, w.expr())
		w.put("]")
	}
	return x
}

func (w *writer) prim() *shape {
	if w.often(1, 3) {
		return w.group()
	}
	switch w.Intn(6) {
	case 0:
		w.put("null")
		return one(api.NdNull, "")
	case 1:
		b := w.Intn(2)
		w.put(strconv.FormatBool(b == 1))
		return &shape{kind: api.NdBool, n: b}
	case 2:
		n := []int{0, 1, 10, greatestInt}[w.Intn(4)]
		w.put(strconv.Itoa(n))
		return &shape{kind: api.NdInt, n: n}
	case 3:
		s := w.str()
		w.put(quoted(s))
		return one(api.NdStr, s)
	}
	return one(api.NdVar, w.name())
}

// group makes an expression with brackets.
func (w *writer) group() *shape {
	switch w.Intn(5) {
	case 0:
		w.put("(")
		x := w.expr()
		w.put(")")
		return x
	case 1:
		x := one(api.NdCall, w.name())
		w.put("(")
		return w.list(x, ")")
	case 2:
		x := one(api.NdHost, []string{"get", "put", "_", "if"}[w.Intn(4)])
		w.put("@"+x.text, "(")
		return w.list(x, ")")
	case 3:
		w.put("[")
		return w.list(one(api.NdList, ""), "]")
	}
	x := one(api.NdMap, "")
	for range w.Intn(4) {
		x.keys = append(x.keys, w.str())
	}
	slices.Sort(x.keys)
	x.keys = slices.Compact(x.keys)
	w.put("{")
	return w.list(x, "}")
}

// list makes the parts of x, and what closes their list.
func (w *writer) list(x *shape, closing string) *shape {
	count := w.Intn(4)
	if x.kind == api.NdMap {
		count = len(x.keys)
	}
	for i := range count {
		if i > 0 {
			w.put(",")
		}
		if x.kind == api.NdMap {
			w.put(quoted(x.keys[i]), ":")
		}
		x.kids = append(x.kids, w.expr())
	}
	w.put(closing)
	return x
}

// text joins the tokens in one of several ways.
func (w *writer) text() string {
	s := ""
	for i, token := range w.tokens {
		// Behind these, or in front of them, no token needs a blank.
		alone := strings.Contains("(){}[],;:", token) || i > 0 && strings.Contains("(){}[],;:", w.tokens[i-1])
		switch w.Intn(8) {
		case 0:
			s += " // ; } \" !\n\t"
		case 1:
			s += "\n"
		default:
			if !alone || w.Intn(2) == 0 {
				s += " "
			}
		}
		s += token
	}
	return s + []string{"", " ", "\n", "// end"}[w.Intn(4)]
}
