package static

import (
	"slices"
	"testing"

	"faas/api"
	"faas/syntax"
)

// The numbers of arguments and the limits, as the chapter says them.
var (
	builtins = map[string]int{"len": 1, "str": 1, "int": 1, "push": 2, "put": 3, "keys": 1, "has": 2, "fail": 1}
	hostOps  = map[string]int{"get": 1, "put": 2, "delete": 1, "send": 2, "timer": 3, "signal": 2, "secret": 1, "fetch": 2, "now": 0, "log": 1}
)

const mostLocals = 32

// tree is a program with what belongs to each node: the node that it is a part of (-1 for the block of a function), and its function. It answers as the chapter's definitions do, without going through the nodes in their order.
type tree struct {
	api.Program
	above []int
	owner []int
}

func treeOf(p api.Program) *tree {
	t := &tree{p, make([]int, len(p.Nodes)), make([]int, len(p.Nodes))}
	for f := range p.Funcs {
		t.own(p.Funcs[f].Body, -1, f)
	}
	return t
}

func (t *tree) own(i, above, f int) {
	t.above[i], t.owner[i] = above, f
	for _, kid := range t.Nodes[i].Kids {
		t.own(kid, i, f)
	}
}

// lets returns the NdLet nodes of the function f with an index below end.
func (t *tree) lets(f, end int) []int {
	var l []int
	for i := range end {
		if t.owner[i] == f && t.Nodes[i].Kind == api.NdLet {
			l = append(l, i)
		}
	}
	return l
}

// visible returns the slots of the variables with the name that are visible at the node i.
func (t *tree) visible(i int, name string) []int {
	f := t.owner[i]
	var slots []int
	for slot, s := range t.Funcs[f].Params {
		if s == name {
			slots = append(slots, slot)
		}
	}
	for ; t.above[i] >= 0; i = t.above[i] {
		around := t.Nodes[t.above[i]]
		if around.Kind != api.NdBlock {
			continue
		}
		for _, statement := range around.Kids[:slices.Index(around.Kids, i)] {
			if n := t.Nodes[statement]; n.Kind == api.NdLet && n.Text == name {
				slots = append(slots, t.declared(statement))
			}
		}
	}
	return slots
}

// declared returns the slot of the variable that the NdLet node i declares.
func (t *tree) declared(i int) int {
	f := t.owner[i]
	return len(t.Funcs[f].Params) + len(t.lets(f, i))
}

// wrong returns what is wrong with the node i.
func (t *tree) wrong(i int) api.Errno {
	n := t.Nodes[i]
	wanted, known := len(n.Kids), true
	switch n.Kind {
	case api.NdVar, api.NdSet:
		known = len(t.visible(i, n.Text)) > 0
	case api.NdLet:
		if len(t.visible(i, n.Text)) > 0 {
			return api.ErrExists
		}
		if t.declared(i) == mostLocals {
			return api.ErrLimit
		}
	case api.NdCall:
		wanted, known = builtins[n.Text]
		for _, f := range t.Funcs {
			if f.Name == n.Text {
				wanted, known = len(f.Params), true
			}
		}
	case api.NdHost:
		wanted, known = hostOps[n.Text]
	}
	if !known {
		return api.ErrName
	}
	if wanted != len(n.Kids) {
		return api.ErrType
	}
	return api.OK
}

// wantedCheck returns what Check has to return.
func wantedCheck(p api.Program) (int, api.Errno) {
	if err := syntax.Check(p); err != api.OK {
		return -1, err
	}
	names := map[string]int{}
	for _, f := range p.Funcs {
		names[f.Name]++
		params := map[string]bool{}
		for _, s := range f.Params {
			params[s] = true
		}
		if _, ok := builtins[f.Name]; ok || names[f.Name] > 1 || len(params) < len(f.Params) {
			return f.Body, api.ErrExists
		}
	}
	if names["main"] == 0 {
		return -1, api.ErrNone
	}
	for _, f := range p.Funcs {
		if f.Name == "main" && len(f.Params) != 1 {
			return f.Body, api.ErrType
		}
	}
	t := treeOf(p)
	for i := range p.Nodes {
		if err := t.wrong(i); err != api.OK {
			return i, err
		}
	}
	return 0, api.OK
}

func (t *tree) wantedSlots() []int {
	slots := make([]int, len(t.Nodes))
	for i, n := range t.Nodes {
		switch n.Kind {
		case api.NdVar, api.NdSet:
			slots[i] = t.visible(i, n.Text)[0]
		case api.NdLet:
			slots[i] = t.declared(i)
		default:
			slots[i] = -1
		}
	}
	return slots
}

func (t *tree) wantedLocals(f int) int {
	return len(t.Funcs[f].Params) + len(t.lets(f, len(t.Nodes)))
}

func (t *tree) calls(f, g int) bool {
	for i, n := range t.Nodes {
		if t.owner[i] == f && n.Kind == api.NdCall && n.Text == t.Funcs[g].Name {
			return true
		}
	}
	return false
}

func (t *tree) wantedCalls(f int) []int {
	var l []int
	for g := range t.Funcs {
		if t.calls(f, g) {
			l = append(l, g)
		}
	}
	return l
}

// wantedReachable returns the functions that are main or called by others of them: further ones are added until there are none.
func (t *tree) wantedReachable() []int {
	in := make([]bool, len(t.Funcs))
	for range t.Funcs {
		for f := range t.Funcs {
			for g := range t.Funcs {
				in[f] = in[f] || t.Funcs[f].Name == "main" || in[g] && t.calls(g, f)
			}
		}
	}
	var l []int
	for f, ok := range in {
		if ok {
			l = append(l, f)
		}
	}
	return l
}

func (t *tree) wantedOps() []string {
	var l []string
	for op := range hostOps {
		if slices.ContainsFunc(t.Nodes, func(n api.Node) bool { return n.Kind == api.NdHost && n.Text == op }) {
			l = append(l, op)
		}
	}
	slices.Sort(l)
	return l
}

func copied(p api.Program) api.Program {
	q := api.Program{Nodes: slices.Clone(p.Nodes), Funcs: slices.Clone(p.Funcs)}
	for i := range q.Nodes {
		q.Nodes[i].Keys, q.Nodes[i].Kids = slices.Clone(q.Nodes[i].Keys), slices.Clone(q.Nodes[i].Kids)
	}
	for i := range q.Funcs {
		q.Funcs[i].Params = slices.Clone(q.Funcs[i].Params)
	}
	return q
}

// checkAll checks every function of the package with p, and returns the error of Check.
func checkAll(t *testing.T, p api.Program) api.Errno {
	t.Helper()
	before := copied(p)
	at, want := wantedCheck(p)
	if i, err := Check(p); i != at || err != want {
		t.Fatalf("%s: %d, %d, not %d, %d", shown(p), i, err, at, want)
	}
	if want == api.OK {
		checkFound(t, p)
		checkConsequences(t, p)
	} else {
		checkNothing(t, p, want)
	}
	if !syntax.Same(p, before) {
		t.Fatalf("%s: changed", shown(p))
	}
	return want
}

// checkFound checks the results for a program that passes, and that those of a second call are not changed with them.
func checkFound(t *testing.T, p api.Program) {
	t.Helper()
	w := treeOf(p)
	for range 2 {
		slots, err := Slots(p)
		if !slices.Equal(slots, w.wantedSlots()) || err != api.OK {
			t.Fatalf("%s: slots %v, %d", shown(p), slots, err)
		}
		ops, reached := Ops(p), Reachable(p)
		if !slices.Equal(ops, w.wantedOps()) || !slices.Equal(reached, w.wantedReachable()) {
			t.Fatalf("%s: %v, %v", shown(p), ops, reached)
		}
		for f := range p.Funcs {
			calls := Calls(p, f)
			if n, err := Locals(p, f); n != w.wantedLocals(f) || err != api.OK || !slices.Equal(calls, w.wantedCalls(f)) {
				t.Fatalf("%s: function %d: %d, %d, %v", shown(p), f, n, err, calls)
			}
			clear(calls)
		}
		clear(slots)
		clear(ops)
		clear(reached)
	}
	for _, f := range []int{-1, len(p.Funcs), len(p.Funcs) + 1} {
		if n, err := Locals(p, f); n != 0 || err != api.ErrRange || len(Calls(p, f)) > 0 {
			t.Fatalf("%s: function %d: %d, %d", shown(p), f, n, err)
		}
	}
}

// checkNothing checks the results for a program with an error.
func checkNothing(t *testing.T, p api.Program, want api.Errno) {
	t.Helper()
	if slots, err := Slots(p); len(slots) > 0 || err != want {
		t.Fatalf("%s: slots %v, %d", shown(p), slots, err)
	}
	if len(Ops(p))+len(Reachable(p)) > 0 {
		t.Fatalf("%s: %v, %v", shown(p), Ops(p), Reachable(p))
	}
	for _, f := range []int{-1, 0, 1, len(p.Funcs) - 1, len(p.Funcs)} {
		if n, err := Locals(p, f); n != 0 || err != want || len(Calls(p, f)) > 0 {
			t.Fatalf("%s: function %d: %d, %d, %v", shown(p), f, n, err, Calls(p, f))
		}
	}
}

// checkConsequences checks P9.6 to P9.8 by the results alone.
func checkConsequences(t *testing.T, p api.Program) {
	t.Helper()
	slots, _ := Slots(p)
	begin := 0
	for f := range p.Funcs {
		params := p.Funcs[f].Params
		locals, _ := Locals(p, f)
		names := slices.Clone(params) // by their slots
		for i := begin; i <= p.Funcs[f].Body; i++ {
			n, slot := p.Nodes[i], slots[i]
			switch n.Kind {
			case api.NdVar, api.NdSet:
				if slot < 0 || slot >= locals || slot >= len(names) || names[slot] != n.Text {
					t.Fatalf("%s: node %d: slot %d of %d", shown(p), i, slot, locals)
				}
			case api.NdLet:
				if slot < len(params) || slot != len(names) || slot >= locals {
					t.Fatalf("%s: node %d: slot %d of %d", shown(p), i, slot, locals)
				}
				names = append(names, n.Text)
			}
		}
		begin = p.Funcs[f].Body + 1
	}
	reached := Reachable(p)
	if !slices.Contains(reached, syntax.Find(p, "main")) {
		t.Fatalf("%s: %v", shown(p), reached)
	}
	for _, f := range reached {
		for _, g := range Calls(p, f) {
			if !slices.Contains(reached, g) {
				t.Fatalf("%s: %v", shown(p), reached)
			}
		}
	}
}

// shown returns what identifies p in the message of a failure.
func shown(p api.Program) string {
	s, err := syntax.Print(p)
	if err != api.OK {
		return "a program without text"
	}
	return s
}
