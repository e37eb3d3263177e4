package syntax

import (
	"math"
	"math/rand"
	"regexp"
	"slices"
	"strings"
	"testing"

	"faas/api"
)

// row is what the chapter's table says about a kind of nodes: what they are (e: an expression, s: a statement, b: a block), and the forms of their parts, of their text, and of their integer.
type row struct {
	role        byte
	kids, text  *regexp.Regexp
	least, most int
}

var (
	nothing    = regexp.MustCompile(`^$`)
	stringForm = regexp.MustCompile(`^[ -~]{0,200}$`)
	nameForm   = regexp.MustCompile(`^[a-z_][a-z0-9_]{0,23}$`)
	wordForm   = regexp.MustCompile(`^(func|let|if|else|while|return|and|or|not|null|true|false)$`)
	some       = regexp.MustCompile(`^e*$`)
	single     = regexp.MustCompile(`^e$`)
	double     = regexp.MustCompile(`^ee$`)
	table      = map[api.NodeKind]row{
		api.NdNull:   {'e', nothing, nothing, 0, 0},
		api.NdBool:   {'e', nothing, nothing, 0, 1},
		api.NdInt:    {'e', nothing, nothing, 0, greatestInt},
		api.NdStr:    {'e', nothing, stringForm, 0, 0},
		api.NdVar:    {'e', nothing, nameForm, 0, 0},
		api.NdList:   {'e', some, nothing, 0, 0},
		api.NdMap:    {'e', some, nothing, 0, 0},
		api.NdUnary:  {'e', single, regexp.MustCompile(`^(-|not)$`), 0, 0},
		api.NdBinary: {'e', double, regexp.MustCompile(`^(or|and|[=!<>]=|[<>+*/%-])$`), 0, 0},
		api.NdIndex:  {'e', double, nothing, 0, 0},
		api.NdCall:   {'e', some, nameForm, 0, 0},
		api.NdHost:   {'e', some, nameForm, 0, 0},
		api.NdLet:    {'s', single, nameForm, 0, 0},
		api.NdSet:    {'s', single, nameForm, 0, 0},
		api.NdIf:     {'s', regexp.MustCompile(`^ebb?$`), nothing, 0, 0},
		api.NdWhile:  {'s', regexp.MustCompile(`^eb$`), nothing, 0, 0},
		api.NdReturn: {'s', single, nothing, 0, 0},
		api.NdDo:     {'s', single, nothing, 0, 0},
		api.NdBlock:  {'b', regexp.MustCompile(`^s*$`), nothing, 0, 0},
	}
)

func isAName(s string) bool { return nameForm.MatchString(s) && !wordForm.MatchString(s) }

// fields reports whether the fields of n are as the table says, apart from its parts.
func fields(n api.Node) bool {
	r, ok := table[n.Kind]
	if !ok || !r.text.MatchString(n.Text) || n.Int < r.least || n.Int > r.most {
		return false
	}
	// The run of a host operation may be a keyword.
	if r.text == nameForm && n.Kind != api.NdHost && !isAName(n.Text) {
		return false
	}
	if n.Kind != api.NdMap {
		return len(n.Keys) == 0
	}
	ascending := slices.IsSorted(n.Keys) && len(slices.Compact(slices.Clone(n.Keys))) == len(n.Keys)
	return ascending && len(n.Keys) == len(n.Kids) && !slices.ContainsFunc(n.Keys, func(s string) bool { return !stringForm.MatchString(s) })
}

// first returns the index of the first node within the node i, how deep it is, and whether it is as it should be.
func first(nodes []api.Node, i int) (int, int, bool) {
	n := nodes[i]
	roles, begin, deep := "", i, 0
	for k := len(n.Kids) - 1; k >= 0; k-- {
		if n.Kids[k] != begin-1 || begin == 0 {
			return 0, 0, false
		}
		roles = string(table[nodes[begin-1].Kind].role) + roles
		start, d, ok := first(nodes, begin-1)
		if !ok {
			return 0, 0, false
		}
		begin, deep = start, max(deep, d)
	}
	return begin, deep + 1, fields(n) && table[n.Kind].kids.MatchString(roles)
}

// wantedCheck returns what Check has to return, and the nesting.
func wantedCheck(p api.Program) (api.Errno, int) {
	if len(p.Nodes) > mostNodes || len(p.Funcs) > mostFuncs {
		return api.ErrLimit, 0
	}
	end, nesting, long := len(p.Nodes), 0, false
	for _, f := range slices.Backward(p.Funcs) {
		if f.Body != end-1 || end == 0 || p.Nodes[f.Body].Kind != api.NdBlock || !isAName(f.Name) {
			return api.ErrSyntax, 0
		}
		for _, s := range f.Params {
			if !isAName(s) {
				return api.ErrSyntax, 0
			}
		}
		begin, deep, ok := first(p.Nodes, f.Body)
		if !ok {
			return api.ErrSyntax, 0
		}
		end, nesting, long = begin, max(nesting, deep), long || len(f.Params) > mostParams
	}
	if end > 0 {
		return api.ErrSyntax, 0
	}
	if long || nesting > mostNesting {
		return api.ErrLimit, 0
	}
	return api.OK, nesting
}

// checkCheck checks Check and Depth, and what P8.5 says about a program that passes. It reports whether p does.
func checkCheck(t *testing.T, p api.Program) bool {
	t.Helper()
	before := copied(p)
	want, nesting := wantedCheck(p)
	if err, n := Check(p), Depth(p); err != want || n != nesting {
		t.Fatalf("%.500v: %d, %d, not %d, %d", p, err, n, want, nesting)
	}
	s, err := Print(p)
	if want != api.OK && (s != "" || err != want) {
		t.Fatalf("%.500v: %.300q, %d", p, s, err)
	}
	if want == api.OK && err == api.OK {
		if q, at, err := Parse(s); !Same(p, q) || at != 0 || err != api.OK {
			t.Fatalf("%.500v: %v, %d, %d", p, q, at, err)
		}
	}
	if !Same(p, before) {
		t.Fatalf("%.500v: changed", p)
	}
	return want == api.OK
}

// everything returns functions with all kinds of nodes.
func everything() []function {
	a, b := aVar("a"), aVar("b")
	return []function{
		{"f", nil, aBlock()},
		{"main", []string{"a", "b"}, aBlock(
			one(api.NdLet, "x", one(api.NdList, "", one(api.NdNull, ""), aBool(1), aBool(0), anInt(7), one(api.NdStr, "s"))),
			one(api.NdSet, "x", aMap([]string{"", "k"}, a, one(api.NdIndex, "", a, b))),
			one(api.NdIf, "", op("or", a, one(api.NdUnary, "not", b)), aBlock(do(one(api.NdCall, "f", one(api.NdUnary, "-", a)))), aBlock(do(b))),
			one(api.NdWhile, "", aBool(1), aBlock(one(api.NdIf, "", op("<", a, b), aBlock()))),
			one(api.NdReturn, "", one(api.NdHost, "get", op("+", a, b), a, aMap(nil))),
		)},
		{"g", []string{"b"}, aBlock(do(aMap(nil)), do(one(api.NdList, "")))},
	}
}

// P8.1: every field of every node changed in many ways.
func TestCheckFields(t *testing.T) {
	p := programOf(everything()...)
	if !checkCheck(t, p) {
		t.Fatal("not proper")
	}
	kinds := map[api.NodeKind]bool{}
	passed := 0
	with := func(i int, change func(n *api.Node)) {
		q := copied(p)
		change(&q.Nodes[i])
		if checkCheck(t, q) {
			passed++
		}
	}
	texts := []string{"", "a", "z", "_", "a1", "1a", "A", "aB", "a-b", "é", " ", "a ", "\n", "\x7f", "\x1f", "\x00", "\xff", "~", `"`, `\`, "-", "--", "not", "or", "and", "if", "func", "null", "true", "xor", "=", "==", "!=", "!", "<", "<=", ">", ">=", "<>", "+", "*", "/", "//", "%", "(", "@a", "@", strings.Repeat("n", 24), strings.Repeat("n", 25), strings.Repeat("n", 200), strings.Repeat(" ", 200), strings.Repeat(" ", 201), strings.Repeat(`"`, 200), strings.Repeat(`"`, 201), strings.Repeat("x", 100000)}
	for i, n := range p.Nodes {
		kinds[n.Kind] = true
		for k := api.NodeKind(-2); k < 24; k++ {
			with(i, func(n *api.Node) { n.Kind = k })
			with(i, func(n *api.Node) { *n = api.Node{Kind: k} })
			with(i, func(n *api.Node) { *n = api.Node{Kind: k, Text: "a"} })
			with(i, func(n *api.Node) { *n = api.Node{Kind: k, Kids: n.Kids} })
			with(i, func(n *api.Node) { *n = api.Node{Kind: k, Text: "-", Kids: n.Kids} })
			with(i, func(n *api.Node) { *n = api.Node{Kind: k, Text: "a", Kids: n.Kids} })
		}
		for _, s := range texts {
			with(i, func(n *api.Node) { n.Text = s })
			with(i, func(n *api.Node) { n.Keys = []string{s} })
			with(i, func(n *api.Node) { n.Keys = []string{"", s} })
			with(i, func(n *api.Node) { n.Keys = []string{s, "k"} })
			with(i, func(n *api.Node) { n.Keys = []string{"", "k", s} })
		}
		for _, k := range []int{math.MinInt, -greatestInt, -1, 0, 1, 2, 7, greatestInt - 1, greatestInt, greatestInt + 1, math.MaxInt} {
			with(i, func(n *api.Node) { n.Int = k })
		}
		for k := -1; k <= len(p.Nodes); k++ {
			with(i, func(n *api.Node) { n.Kids = []int{k} })
			with(i, func(n *api.Node) { n.Kids = append(n.Kids, k) })
			with(i, func(n *api.Node) { n.Kids = slices.Insert(n.Kids, 0, k) })
			for j := range n.Kids {
				with(i, func(n *api.Node) { n.Kids[j] = k })
			}
		}
		for j := range n.Kids {
			with(i, func(n *api.Node) { n.Kids = slices.Delete(n.Kids, j, j+1) })
			with(i, func(n *api.Node) { n.Kids[0], n.Kids[j] = n.Kids[j], n.Kids[0] })
		}
		with(i, func(n *api.Node) { n.Kids = nil })
		with(i, func(n *api.Node) { n.Kids = []int{} })
		with(i, func(n *api.Node) { n.Keys = []string{} })
		with(i, func(n *api.Node) { n.Kids = []int{math.MinInt, math.MaxInt} })
		with(i, func(n *api.Node) { n.Kids = make([]int, 100000) })
		with(i, func(n *api.Node) { n.Keys = make([]string, 100000) })
	}
	if len(kinds) != len(table) || passed < 1000 {
		t.Error(len(kinds), passed)
	}
}

// P8.1: nodes removed, doubled and moved, and functions likewise.
func TestCheckOrder(t *testing.T) {
	p := programOf(everything()...)
	for i := range p.Nodes {
		for j := range p.Nodes {
			q := copied(p)
			q.Nodes[i], q.Nodes[j] = q.Nodes[j], q.Nodes[i]
			checkCheck(t, q)
			q = copied(p)
			q.Nodes[i] = copied(p).Nodes[j]
			checkCheck(t, q)
		}
		q := copied(p)
		q.Nodes = slices.Delete(q.Nodes, i, i+1)
		checkCheck(t, q)
		q = copied(p)
		q.Nodes = slices.Insert(q.Nodes, i, q.Nodes[i])
		checkCheck(t, q)
		q.Nodes = p.Nodes[:i]
		checkCheck(t, q)
	}
	for i := range p.Funcs {
		for k := -2; k < len(p.Nodes)+2; k++ {
			q := copied(p)
			q.Funcs[i].Body = k
			checkCheck(t, q)
		}
		for _, k := range []int{math.MinInt, math.MaxInt} {
			q := copied(p)
			q.Funcs[i].Body = k
			checkCheck(t, q)
		}
		for j := range p.Funcs {
			q := copied(p)
			q.Funcs[i], q.Funcs[j] = q.Funcs[j], q.Funcs[i]
			checkCheck(t, q)
			q.Funcs[i].Body, q.Funcs[j].Body = q.Funcs[j].Body, q.Funcs[i].Body
			if !checkCheck(t, q) {
				t.Error("functions with other names")
			}
		}
		q := copied(p)
		q.Funcs = slices.Delete(q.Funcs, i, i+1)
		checkCheck(t, q)
		q = copied(p)
		q.Funcs = slices.Insert(q.Funcs, i, q.Funcs[i])
		checkCheck(t, q)
	}
	// Nodes without functions, malformed in other ways too.
	for _, nodes := range [][]api.Node{{{Kind: api.NdNull, Text: "a"}}, {{Kind: api.NdDo, Kids: []int{0}}}, {{Kind: api.NdNull}, {Kind: api.NdList, Kids: []int{1}}}, {{Kind: api.NdBlock, Kids: []int{-1, 0}}}} {
		checkCheck(t, api.Program{Nodes: nodes})
	}
	for _, q := range []api.Program{{}, {Nodes: []api.Node{}, Funcs: []api.Func{}}, {Nodes: p.Nodes}, {Funcs: p.Funcs}, {Funcs: []api.Func{{Name: "f"}}}, {Nodes: []api.Node{{Kind: api.NdBlock}}}, {Nodes: []api.Node{{Kind: api.NdBlock}}, Funcs: []api.Func{{Name: "f"}}}, {Nodes: []api.Node{{Kind: api.NdBlock}, {Kind: api.NdBlock}}, Funcs: []api.Func{{Name: "f", Body: 1}}}, {Nodes: []api.Node{{Kind: api.NdBlock}, {Kind: api.NdBlock}}, Funcs: []api.Func{{Name: "f"}, {Name: "f", Body: 1}}}, {Nodes: []api.Node{{Kind: api.NdBlock}}, Funcs: []api.Func{{Name: "f"}, {Name: "g"}}}, {Nodes: []api.Node{{Kind: api.NdNull}}, Funcs: []api.Func{{Name: "f"}}}, {Nodes: []api.Node{{}}, Funcs: []api.Func{{Name: "f"}}}} {
		checkCheck(t, q)
	}
}

// P8.1: the names of functions and parameters.
func TestCheckNames(t *testing.T) {
	for s, want := range map[string]bool{"a": true, "_": true, "z9_": true, "main": true, "len": true, "iff": true, strings.Repeat("n", 24): true, strings.Repeat("n", 25): false, "": false, "if": false, "true": false, "func": false, "1": false, "1a": false, "A": false, "aB": false, "a-b": false, "a b": false, " a": false, "a\n": false, "a//": false, "@a": false, "é": false, "\xff": false, "a\x00": false, strings.Repeat("n", 100000): false} {
		for i := range 3 {
			p := programOf(everything()...)
			p.Funcs[i].Name = s
			if checkCheck(t, p) != want {
				t.Errorf("%.80q as the function %d", s, i)
			}
			p = programOf(everything()...)
			p.Funcs[i].Params = append(p.Funcs[i].Params, s)
			if checkCheck(t, p) != want {
				t.Errorf("%.80q as a parameter of the function %d", s, i)
			}
			p.Funcs[i].Params = append(p.Funcs[i].Params, "a", "a")
			if checkCheck(t, p) != want {
				t.Errorf("%.80q as a parameter of the function %d", s, i)
			}
		}
	}
}

// P8.1: the limits, and which of several errors counts.
func TestCheckLimits(t *testing.T) {
	a := aVar("a")
	params := func(n int) function { return function{"f", slices.Repeat([]string{"a"}, n), aBlock()} }
	nested := func(n int) function {
		x := a
		for range n - 3 {
			x = one(api.NdUnary, "-", x)
		}
		return function{"f", nil, aBlock(do(x))}
	}
	statements := func(n int) function {
		return function{"f", nil, aBlock(slices.Repeat([]*shape{do(a)}, n)...)}
	}
	few, many := function{"f", nil, aBlock()}, slices.Repeat([]function{{"f", nil, aBlock()}}, 16)
	bad := function{"F", nil, aBlock()}
	for i, c := range []struct {
		funcs []function
		want  api.Errno
	}{
		{[]function{params(8), params(8)}, api.OK}, {[]function{params(9)}, api.ErrLimit}, {[]function{few, params(9), few}, api.ErrLimit}, {[]function{params(1000)}, api.ErrLimit}, {[]function{params(100000)}, api.ErrLimit},
		{[]function{nested(32), nested(32)}, api.OK}, {[]function{nested(33)}, api.ErrLimit}, {[]function{nested(33), nested(3)}, api.ErrLimit}, {[]function{nested(3), nested(33)}, api.ErrLimit}, {[]function{nested(500)}, api.ErrLimit},
		{many, api.OK}, {append(many[:16:16], few), api.ErrLimit},
		{[]function{statements(299), few}, api.OK}, {[]function{statements(299), few, few}, api.ErrLimit}, {[]function{statements(300)}, api.ErrLimit},
		// The numbers of nodes and functions come before what is malformed, the other limits behind it.
		{append(many[:16:16], bad), api.ErrLimit}, {append(many[:15:15], bad), api.ErrSyntax}, {[]function{bad, statements(300)}, api.ErrLimit}, {[]function{bad, statements(299)}, api.ErrSyntax}, {[]function{params(9), bad}, api.ErrSyntax}, {[]function{bad, params(9)}, api.ErrSyntax}, {[]function{nested(33), bad}, api.ErrSyntax}, {[]function{bad, nested(33)}, api.ErrSyntax}, {[]function{{"f", append(slices.Repeat([]string{"a"}, 9), "A"), aBlock()}}, api.ErrSyntax}, {[]function{{"f", append(slices.Repeat([]string{"a"}, 100000), ""), aBlock()}}, api.ErrSyntax},
	} {
		p := programOf(c.funcs...)
		checkCheck(t, p)
		if err := Check(p); err != c.want {
			t.Errorf("%d: %d", i, err)
		}
	}
	// Other lists of too many nodes.
	for _, n := range []int{600, 601, 100000} {
		if err := Check(api.Program{Nodes: make([]api.Node, n)}); err != map[bool]api.Errno{true: api.ErrLimit, false: api.ErrSyntax}[n > 600] {
			t.Error(n, err)
		}
		if err := Check(api.Program{Funcs: make([]api.Func, n)}); err != api.ErrLimit {
			t.Error(n, err)
		}
	}
}

// P8.1: all short lists of nodes over those that matter, each with the parts that its kind can have.
func TestCheckShort(t *testing.T) {
	leaf := api.Node{Kind: api.NdVar, Text: "a"}
	var protos []api.Node
	for kind, r := range table {
		n := api.Node{Kind: kind}
		switch {
		case kind == api.NdUnary || kind == api.NdBinary:
			n.Text = "-"
		case r.text == nameForm:
			n.Text = "a"
		}
		if kind != api.NdVar && kind != api.NdMap {
			protos = append(protos, n)
		}
	}
	slices.SortFunc(protos, func(a, b api.Node) int { return int(a.Kind - b.Kind) })
	protos = append(protos, api.Node{})
	passed := 0
	var extend func(nodes []api.Node, open []int, left int)
	extend = func(nodes []api.Node, open []int, left int) {
		// Each last node as the only body, and all open ones as the bodies.
		p := api.Program{Nodes: nodes}
		for _, i := range open {
			p.Funcs = append(p.Funcs, api.Func{Name: "f", Body: i})
		}
		if checkCheck(t, p) {
			passed++
		}
		if len(p.Funcs) > 1 {
			p.Funcs = p.Funcs[len(p.Funcs)-1:]
			checkCheck(t, p)
		}
		if left == 0 || t.Failed() {
			return
		}
		for _, n := range append(protos, leaf) {
			for k := 0; k <= min(3, len(open)); k++ {
				n.Kids = slices.Clone(open[len(open)-k:])
				extend(append(slices.Clone(nodes), n), append(slices.Clone(open[:len(open)-k]), len(nodes)), left-1)
			}
		}
	}
	extend(nil, nil, 3)
	// Two leaves and blocks in front leave more to the rest.
	extend([]api.Node{leaf, {Kind: api.NdBlock}}, []int{0, 1}, 2)
	extend([]api.Node{leaf, {Kind: api.NdBlock}, {Kind: api.NdBlock}}, []int{0, 1, 2}, 2)
	extend([]api.Node{leaf, leaf, {Kind: api.NdBlock}}, []int{0, 1, 2}, 2)
	extend([]api.Node{leaf, leaf}, []int{0, 1}, 3)
	if passed < 50 {
		t.Error(passed)
	}
}

// P8.1: random programs with several random changes.
func TestCheckRandom(t *testing.T) {
	r := rand.New(rand.NewSource(81))
	passed := 0
	for range 20000 {
		w := &writer{Rand: r, deep: 2 + r.Intn(4)}
		p := programOf(w.program()...)
		if len(p.Nodes) > 300 || len(p.Nodes) == 0 {
			continue
		}
		for range r.Intn(3) {
			n := &p.Nodes[r.Intn(len(p.Nodes))]
			switch r.Intn(6) {
			case 0:
				n.Kind = api.NodeKind(r.Intn(20))
			case 1:
				n.Text = []string{"", "a", "-", "not", "<", "if", "A"}[r.Intn(7)]
			case 2:
				n.Int = r.Intn(3) - 1
			case 3:
				if len(n.Kids) > 0 {
					n.Kids[r.Intn(len(n.Kids))] += r.Intn(3) - 1
				}
			case 4:
				if len(n.Kids) > 0 {
					n.Kids = n.Kids[:len(n.Kids)-1]
				}
			case 5:
				p.Funcs[r.Intn(len(p.Funcs))].Body += r.Intn(3) - 1
			}
		}
		if checkCheck(t, p) {
			passed++
		}
	}
	if passed < 3000 {
		t.Error(passed)
	}
}

// P8.4: a program and each of its changes.
func TestSame(t *testing.T) {
	p := programOf(everything()...)
	changed := func(what string, change func(q *api.Program)) {
		q := copied(p)
		change(&q)
		if Same(p, q) || Same(q, p) || !Same(q, copied(q)) {
			t.Error(what)
		}
	}
	for i, n := range p.Nodes {
		changed("kind", func(q *api.Program) { q.Nodes[i].Kind++ })
		changed("text", func(q *api.Program) { q.Nodes[i].Text += "?" })
		changed("integer", func(q *api.Program) { q.Nodes[i].Int = -5 })
		changed("another key", func(q *api.Program) { q.Nodes[i].Keys = append(q.Nodes[i].Keys, "") })
		changed("another part", func(q *api.Program) { q.Nodes[i].Kids = append(q.Nodes[i].Kids, 0) })
		changed("fewer nodes", func(q *api.Program) { q.Nodes = q.Nodes[:i] })
		changed("more nodes", func(q *api.Program) { q.Nodes = slices.Insert(q.Nodes, i, api.Node{}) })
		for j := range n.Kids {
			changed("part", func(q *api.Program) { q.Nodes[i].Kids[j] = -1 })
		}
		for j := range n.Keys {
			changed("key", func(q *api.Program) { q.Nodes[i].Keys[j] += "?" })
		}
	}
	for i, f := range p.Funcs {
		changed("name", func(q *api.Program) { q.Funcs[i].Name += "?" })
		changed("body", func(q *api.Program) { q.Funcs[i].Body-- })
		changed("another parameter", func(q *api.Program) { q.Funcs[i].Params = append(q.Funcs[i].Params, "") })
		changed("fewer functions", func(q *api.Program) { q.Funcs = q.Funcs[:i] })
		for j := range f.Params {
			changed("parameter", func(q *api.Program) { q.Funcs[i].Params[j] += "?" })
		}
	}
	// The order of nodes, functions, keys and parameters matters.
	changed("order of nodes", func(q *api.Program) { slices.Reverse(q.Nodes) })
	changed("order of functions", func(q *api.Program) { slices.Reverse(q.Funcs) })
	changed("order of parameters", func(q *api.Program) { slices.Reverse(q.Funcs[1].Params) })
	changed("no nodes", func(q *api.Program) { q.Nodes = nil })
	changed("no functions", func(q *api.Program) { q.Funcs = nil })
}

// P8.4: nil and empty lists, and programs that do not pass Check.
func TestSameLists(t *testing.T) {
	p := programOf(everything()...)
	q := copied(p)
	for i := range q.Nodes {
		q.Nodes[i].Keys = append([]string{}, q.Nodes[i].Keys...)
		q.Nodes[i].Kids = append([]int{}, q.Nodes[i].Kids...)
	}
	for i := range q.Funcs {
		q.Funcs[i].Params = append([]string{}, q.Funcs[i].Params...)
	}
	if !Same(p, q) || !Same(q, p) || Check(q) != api.OK {
		t.Error("empty lists")
	}
	if !Same(api.Program{}, api.Program{Nodes: []api.Node{}, Funcs: []api.Func{}}) || Same(api.Program{}, p) {
		t.Error("no nodes")
	}
	odd := api.Program{Nodes: []api.Node{{Kind: -1, Text: "A", Int: -1, Keys: []string{"b", "a"}, Kids: []int{7}}}, Funcs: []api.Func{{Name: "A", Body: -1}}}
	if !Same(odd, copied(odd)) || Same(odd, p) || Same(odd, api.Program{Nodes: odd.Nodes}) || Same(odd, api.Program{Funcs: odd.Funcs}) {
		t.Error("a program that does not pass Check")
	}
}

// P8.4
func TestDepth(t *testing.T) {
	a := aVar("a")
	for i, c := range []struct {
		p    api.Program
		want int
	}{
		{api.Program{}, 0}, {inMain(), 1}, {inMain(do(a)), 3}, {inMain(do(op("+", a, op("+", a, a)))), 5}, {inMain(do(op("+", op("+", op("+", a, a), a), a))), 6}, {inMain(do(one(api.NdList, ""))), 3}, {inMain(one(api.NdIf, "", a, aBlock())), 3}, {inMain(one(api.NdIf, "", a, aBlock(), aBlock(do(a)))), 5}, {inMain(do(a), one(api.NdWhile, "", a, aBlock(one(api.NdWhile, "", a, aBlock()))), do(a)), 5}, {programOf(everything()...), 7},
		{programOf(function{"f", nil, aBlock(do(one(api.NdUnary, "-", a)))}, function{"g", nil, aBlock()}), 4}, {programOf(function{"f", nil, aBlock()}, function{"g", nil, aBlock(do(a))}), 3},
		// With an error of Check.
		{programOf(function{"F", nil, aBlock()}), 0}, {programOf(function{"f", slices.Repeat([]string{"a"}, 9), aBlock()}), 0}, {api.Program{Nodes: []api.Node{{Kind: api.NdBlock}}}, 0}, {api.Program{Nodes: []api.Node{{Kind: api.NdBlock, Kids: []int{0}}}, Funcs: []api.Func{{Name: "f"}}}, 0},
	} {
		if n := Depth(c.p); n != c.want {
			t.Errorf("%d: %d", i, n)
		}
	}
}

// P8.4
func TestFind(t *testing.T) {
	p := api.Program{Funcs: []api.Func{{Name: "f"}, {Name: "main"}, {Name: "g"}, {Name: "main"}, {Name: ""}, {Name: "A b"}}}
	for name, want := range map[string]int{"f": 0, "main": 1, "g": 2, "": 4, "A b": 5, "h": -1, "mai": -1, "mainn": -1, "F": -1} {
		if i := Find(p, name); i != want {
			t.Errorf("%q: %d", name, i)
		}
		if i := Find(api.Program{}, name); i != -1 {
			t.Errorf("%q: %d", name, i)
		}
	}
	if i := Find(programOf(everything()...), "main"); i != 1 {
		t.Error(i)
	}
}
