package machine

import (
	"fmt"
	"math"
	"math/rand"
	"slices"
	"strings"
	"testing"

	"faas/api"
)

// places returns the addresses of all elements of all lists of a machine, and of the room behind them.
func places(m api.Machine) []any {
	var l []any
	cells := func(v []api.Cell) {
		for i := range v[:cap(v)] {
			l = append(l, &v[:cap(v)][i])
		}
	}
	values := func(list [][]api.Cell) {
		for i := range list[:cap(list)] {
			l = append(l, &list[:cap(list)][i])
		}
		for _, v := range list {
			cells(v)
		}
	}
	cells(m.Value)
	for i := range m.Frames[:cap(m.Frames)] {
		l = append(l, &m.Frames[:cap(m.Frames)][i])
	}
	for _, f := range m.Frames {
		values(f.Locals)
		values(f.Stack)
	}
	for i := range m.Requests[:cap(m.Requests)] {
		l = append(l, &m.Requests[:cap(m.Requests)][i])
	}
	for _, q := range m.Requests {
		values(q.Args)
	}
	return l
}

// checkApart requires that no two lists of these machines share memory.
func checkApart(t *testing.T, machines ...api.Machine) {
	t.Helper()
	seen := map[any]bool{}
	for _, m := range machines {
		for _, p := range places(m) {
			if seen[p] {
				t.Fatal("shared", told(m))
			}
			seen[p] = true
		}
	}
}

// asMachine returns a machine that has these values, for places.
func asMachine(l ...[]api.Cell) api.Machine {
	return api.Machine{Requests: []api.Request{{Args: l}}}
}

// R3: no result shares memory with an argument, and no two lists of a result share memory.
func TestNewMemory(t *testing.T) {
	c := assembled(t,
		"main 1 3: load 0; load 0; dup; list 2; store 1; store 2; load 1; load 0; host 2 put; dup; list 2; store 1; load 0; dup; call 1; pop; load 1; load 1; host 2 send; pop; load 2; load 0; binary +; return",
		"f 2 4: load 0; store 2; load 0; dup; host 2 put; load 1; load 2; load 0; list 3; list 2; return")
	event := cells(t, "[1,[2]]")
	m := started(t, c, "0", most)
	m, err := Start(c, event, most)
	if err != api.OK {
		t.Fatal(err)
	}
	checkApart(t, asMachine(event), m)
	visited := 0
	for m.Status == api.StRunning || m.Status == api.StWaiting {
		checkApart(t, m, Step(c, m), Run(c, m, 0), Run(c, m, 3), Run(c, m, 100))
		visited++
		if m.Status == api.StRunning {
			m = Step(c, m)
			continue
		}
		q, ok := Pending(m)
		o := Outcome(m)
		a := api.Answer{Value: cells(t, "[7,8]")}
		next, err := Answer(m, a)
		failed, err2 := Answer(m, api.Answer{Err: api.ErrDown})
		if !ok || err != api.OK || err2 != api.OK {
			t.Fatal(told(m), q, err, err2)
		}
		checkApart(t, m, api.Machine{Requests: []api.Request{q}}, api.Machine{Requests: o.Requests}, asMachine(a.Value), next, failed)
		m = next
	}
	o := Outcome(m)
	checkApart(t, m, api.Machine{Value: o.Value, Requests: o.Requests}, Step(c, m), Run(c, m, 5))
	if m.Status != api.StDone || shown(m.Value) != "[1,[2],1,[2]]" || visited != 38 || toldRequests(m.Requests) != ` put([[1,[2]],[1,[2]]] [1,[2]]) put([1,[2]] [1,[2]]) send([[7,8],[7,8]] [[7,8],[7,8]])` {
		t.Error(told(m), visited)
	}
}

// damager changes codes and machines at random.
type damager struct{ *rand.Rand }

func (d damager) number() int {
	return []int{-1, 0, 1, 2, 3, 5, 17, 100, 5000, math.MaxInt, math.MinInt, 1 << 40, -1 << 40}[d.Intn(13)]
}

func (d damager) value() []api.Cell {
	if d.Intn(2) == 0 {
		return slices.Clone(bad[d.Intn(len(bad))].v)
	}
	return []api.Cell{{Kind: api.Kind(d.Intn(9) - 1), Int: d.number(), Str: "?", N: d.number()}}
}

func (d damager) list(l *[][]api.Cell) {
	switch n := len(*l); {
	case n == 0 || d.Intn(3) == 0:
		*l = append(*l, d.value())
	case d.Intn(2) == 0:
		*l = (*l)[:n-1]
	default:
		(*l)[d.Intn(n)] = d.value()
	}
}

func (d damager) machine(m *api.Machine) {
	switch d.Intn(9) {
	case 0:
		m.Status = api.Status(d.Intn(7) - 1)
	case 1:
		m.Limits = api.Limits{Steps: d.number(), Memory: d.number()}
	case 2:
		m.Steps = d.number()
	case 3:
		m.Peak = d.number()
	case 4:
		m.Value = d.value()
	case 5:
		if len(m.Requests) > 0 && d.Intn(2) == 0 {
			m.Requests = m.Requests[1:]
		} else {
			m.Requests = append(m.Requests, api.Request{Op: "?", Args: [][]api.Cell{d.value()}})
		}
	case 6:
		if len(m.Frames) > 0 && d.Intn(2) == 0 {
			m.Frames = m.Frames[1:]
		} else {
			m.Frames = append(m.Frames, api.Frame{Func: d.number(), Pc: d.Intn(5)})
		}
	default:
		if len(m.Frames) > 0 {
			d.frame(&m.Frames[d.Intn(len(m.Frames))])
		}
	}
}

func (d damager) frame(f *api.Frame) {
	switch d.Intn(4) {
	case 0:
		f.Func = d.number()
	case 1:
		f.Pc = d.number()
	case 2:
		d.list(&f.Locals)
	default:
		d.list(&f.Stack)
	}
}

func (d damager) code(c *api.Code) {
	if len(c.Ins) == 0 || len(c.Funcs) == 0 {
		return
	}
	f := &c.Funcs[d.Intn(len(c.Funcs))]
	in := &c.Ins[d.Intn(len(c.Ins))]
	switch d.Intn(12) {
	case 0:
		f.Params = d.number()
	case 1:
		f.Locals = d.number()
	case 2:
		f.Entry = d.number()
	case 3:
		c.Funcs = c.Funcs[1:]
	case 4:
		c.Ins = c.Ins[:d.Intn(len(c.Ins))]
	case 5, 6:
		in.A = d.number()
	case 7:
		in.S = []string{"", "-", "+", "len", "now", "fail", "\n"}[d.Intn(7)]
	case 8:
		in.Keys = append(in.Keys, "k")
	case 9:
		in.Op = api.Op(d.number())
	default:
		in.Op = api.Op(d.Intn(22))
	}
}

// exercise calls all functions.
func (d damager) exercise(t *testing.T, c api.Code, m api.Machine) {
	t.Helper()
	before, codeBefore := told(m), fmt.Sprint(c)
	results := []api.Machine{m, Step(c, m), Run(c, m, d.Intn(20)), Run(c, m, d.number())}
	if next, err := Answer(m, api.Answer{Value: d.value(), Err: api.Errno(d.Intn(2))}); (err == api.ErrState) != (m.Status != api.StWaiting) {
		t.Fatal(before, err)
	} else {
		results = append(results, next)
	}
	next, _ := Answer(m, api.Answer{Value: []api.Cell{{Kind: api.Null}}})
	results = append(results, next, Run(c, next, 10))
	q, ok := Pending(m)
	if ok != (m.Status == api.StWaiting && len(m.Requests) > 0) {
		t.Fatal(before, q)
	}
	o := Outcome(m)
	results = append(results, api.Machine{Requests: []api.Request{q}}, api.Machine{Value: o.Value, Requests: o.Requests})
	checkApart(t, results...)
	memory := 0
	for _, f := range m.Frames {
		for _, v := range append(append([][]api.Cell{}, f.Locals...), f.Stack...) {
			memory += len(v)
		}
	}
	if !Same(m, m) || Memory(m) != memory || told(m) != before || fmt.Sprint(c) != codeBefore {
		t.Fatal(before, told(m))
	}
	if m.Status != api.StRunning && (!Same(results[1], m) || !Same(results[3], m)) {
		t.Fatal(before, told(results[1]))
	}
	Start(c, d.value(), m.Limits)
	Start(c, []api.Cell{{Kind: api.Null}}, api.Limits{Steps: 5, Memory: 50})
}

// R1, R3: damaged codes and machines.
func TestDamaged(t *testing.T) {
	d := damager{rand.New(rand.NewSource(134))}
	w := &writer{Rand: d.Rand}
	for range 6000 {
		c := w.code()
		m := started(t, c, "[1,true]", most)
		for range w.Intn(4) {
			m = Run(c, m, w.Intn(12))
			if next, err := Answer(m, api.Answer{Value: cells(t, "2")}); err == api.OK {
				m = next
			}
		}
		for range 1 + d.Intn(4) {
			d.machine(&m)
		}
		for range d.Intn(4) {
			d.code(&c)
		}
		d.exercise(t, c, m)
	}
	d.exercise(t, api.Code{}, api.Machine{})
	for status := api.Status(-1); status < 6; status++ {
		d.exercise(t, mainOf(t, 1, "null; return"), api.Machine{Status: status})
	}
}

// R1: machines that Start has not made may have any limits, and yet come to an end.
func TestEndless(t *testing.T) {
	for _, body := range []string{"jump 0", "null; jump 0", "dup; jump 0", "load 0; jump 0", "load 0; load 0; list 2; store 0; jump 0", "call 0; jump 0"} {
		c := api.Code{Funcs: []api.CodeFunc{{Name: "main", Locals: 1 << 50}}}
		for _, line := range strings.Split(body, ";") {
			c.Ins = append(c.Ins, instruction(strings.Fields(line)))
		}
		frame := api.Frame{Locals: [][]api.Cell{make([]api.Cell, 100)}, Stack: [][]api.Cell{make([]api.Cell, 1000)}}
		for _, steps := range []int{0, 1, math.MinInt, math.MaxInt} {
			m := api.Machine{Status: api.StRunning, Frames: []api.Frame{frame}, Limits: api.Limits{Steps: math.MaxInt, Memory: math.MaxInt}, Steps: steps}
			Step(c, m)
			if m = Run(c, m, math.MaxInt); Memory(m) > 10*mostMemory {
				t.Error(body, Memory(m))
			}
		}
	}
}

// R1: each operation on a stack of values that are not valid, or too few.
func TestWrongStacks(t *testing.T) {
	d := damager{rand.New(rand.NewSource(135))}
	for op := api.Op(-1); op < 23; op++ {
		for _, s := range []string{"", "-", "not", "+", "==", "len", "push", "put", "now", "get"} {
			for a := -1; a < 4; a++ {
				c := api.Code{Funcs: []api.CodeFunc{{Name: "main", Params: 1, Locals: 2}, {Name: "f", Params: a, Locals: a}}, Ins: []api.Ins{{Op: op, A: a, S: s, Keys: []string{"k", "l"}}}}
				for n := range 4 {
					for _, v := range [][]api.Cell{nil, {{}}, {{Kind: api.Bool}, {Kind: api.Bool}}, {{Kind: api.Bool, Int: 7}}} {
						f := api.Frame{Locals: [][]api.Cell{slices.Clone(v)}}
						for range n {
							f.Stack = append(f.Stack, slices.Clone(v))
						}
						d.exercise(t, c, api.Machine{Status: api.StRunning, Limits: most, Frames: []api.Frame{f}})
					}
				}
			}
		}
	}
}
