package machine

import (
	"fmt"
	"slices"
	"strconv"
	"strings"
	"testing"

	"faas/api"
	"faas/code"
	"faas/eval"
	"faas/value"
)

// The limits of DOC.md.
const mostSteps, mostMemory, mostCalls, mostRequests = 20000, 4000, 16, 32

var most = api.Limits{Steps: mostSteps, Memory: mostMemory}

// cells returns the value with the text s.
func cells(t *testing.T, s string) []api.Cell {
	t.Helper()
	v, err := value.Decode(s)
	if err != api.OK {
		t.Fatalf("%s: %d", s, err)
	}
	return v
}

// answered returns answers with these values; the text ! and a number stands for an error, ? for a value that is not valid.
func answered(t *testing.T, texts ...string) []api.Answer {
	t.Helper()
	var l []api.Answer
	for _, s := range texts {
		switch s[0] {
		case '!':
			n, err := strconv.Atoi(s[1:])
			if err != nil {
				t.Fatal(err)
			}
			l = append(l, api.Answer{Err: api.Errno(n)})
		case '?':
			l = append(l, api.Answer{Value: []api.Cell{{Kind: api.List, N: 1}}})
		default:
			l = append(l, api.Answer{Value: cells(t, s)})
		}
	}
	return l
}

// shown returns the text of a value, or its cells if it is not valid.
func shown(v []api.Cell) string {
	s, err := value.Encode(v)
	if err != api.OK {
		return fmt.Sprint(v)
	}
	return s
}

func shownAll(l [][]api.Cell) string {
	var texts []string
	for _, v := range l {
		texts = append(texts, shown(v))
	}
	return "(" + strings.Join(texts, " ") + ")"
}

// told returns all parts of a machine as a text.
func told(m api.Machine) string {
	s := fmt.Sprintf("status %d %d value %s limits %d %d steps %d peak %d", m.Status, m.Err, shown(m.Value), m.Limits.Steps, m.Limits.Memory, m.Steps, m.Peak)
	for _, f := range m.Frames {
		s += fmt.Sprintf(" frame %d %d %s %s", f.Func, f.Pc, shownAll(f.Locals), shownAll(f.Stack))
	}
	return s + toldRequests(m.Requests)
}

func toldRequests(l []api.Request) string {
	s := ""
	for _, q := range l {
		s += " " + q.Op + shownAll(q.Args)
	}
	return s
}

func toldOutcome(o api.Outcome) string {
	return fmt.Sprint(o.Done, " ", o.Err, " ", shown(o.Value), toldRequests(o.Requests))
}

// summary returns how a machine ended, its steps and its peak.
func summary(m api.Machine) string {
	s := fmt.Sprint("running at ", m.Frames)
	switch m.Status {
	case api.StWaiting:
		s = "waits"
	case api.StDone:
		s = "done " + shown(m.Value)
	case api.StFailed:
		s = fmt.Sprint("failed ", m.Err)
	}
	return fmt.Sprint(s, ", ", m.Steps, " ", m.Peak, toldRequests(m.Requests))
}

// names are those of the operations, as chapter 11 writes them.
var names = []string{"", "null", "bool", "int", "str", "load", "store", "pop", "unary", "binary", "index", "list", "map", "jump", "false", "test", "dup", "call", "built", "host", "return"}

// assembled returns the code of functions that are written as "name params locals: instruction; instruction".
func assembled(t *testing.T, functions ...string) api.Code {
	t.Helper()
	var c api.Code
	for _, s := range functions {
		head, body, _ := strings.Cut(s, ":")
		f := api.CodeFunc{Entry: len(c.Ins)}
		if _, err := fmt.Sscan(head, &f.Name, &f.Params, &f.Locals); err != nil {
			t.Fatal(s, err)
		}
		for _, line := range strings.Split(body, ";") {
			c.Ins = append(c.Ins, instruction(strings.Fields(line)))
		}
		f.End = len(c.Ins)
		c.Funcs = append(c.Funcs, f)
	}
	if at, err := code.Check(c); err != api.OK {
		t.Fatal(functions, at, err)
	}
	return c
}

// instruction returns the one with these words: its operation, A if there is one, and S or the keys.
func instruction(words []string) api.Ins {
	in := api.Ins{Op: api.Op(slices.Index(names, words[0]))}
	rest := words[1:]
	if len(rest) > 0 && in.Op != api.OpStr {
		if n, err := strconv.Atoi(rest[0]); err == nil {
			in.A = n
			rest = rest[1:]
		}
	}
	if in.Op == api.OpMap {
		in.Keys = slices.Clone(rest)
	} else if len(rest) > 0 {
		in.S = rest[0]
	}
	return in
}

// mainOf returns the code of a main with so many variables.
func mainOf(t *testing.T, locals int, body string) api.Code {
	t.Helper()
	return assembled(t, fmt.Sprint("main 1 ", locals, ": ", body))
}

func started(t *testing.T, c api.Code, event string, l api.Limits) api.Machine {
	t.Helper()
	m, err := Start(c, cells(t, event), l)
	if err != api.OK {
		t.Fatal(c, event, l, err)
	}
	return m
}

// ended runs and answers a machine until it is done, has failed, or waits for an answer that there is not.
func ended(t *testing.T, c api.Code, m api.Machine, answers ...api.Answer) api.Machine {
	t.Helper()
	for {
		m = Run(c, m, mostSteps+1)
		if m.Status != api.StWaiting || len(answers) == 0 {
			return m
		}
		next, err := Answer(m, answers[0])
		if err != api.OK {
			t.Fatal(told(m), err)
		}
		m, answers = next, answers[1:]
	}
}

// model executes a code by calling itself for each call, and tells the machine after each step and each answer.
type model struct {
	api.Code
	limits      api.Limits
	answers     []api.Answer
	frames      []*api.Frame
	requests    []api.Request
	steps, peak int
	trace       []string
}

// stopped is how a model ends, which it panics with. Without a status it waits for an answer that there is not.
type stopped struct {
	status api.Status
	err    api.Errno
	value  []api.Cell
}

func must(v []api.Cell, err api.Errno) []api.Cell {
	if err != api.OK {
		panic(stopped{status: api.StFailed, err: err})
	}
	return v
}

func mustBe(ok bool, err api.Errno) {
	if !ok {
		must(nil, err)
	}
}

// modelTrace returns the texts of all machines from the start to the end.
func modelTrace(c api.Code, event []api.Cell, l api.Limits, answers []api.Answer) (trace []string) {
	m := &model{Code: c, limits: l, answers: answers}
	defer func() {
		x := recover()
		end, ok := x.(stopped)
		if !ok {
			panic(x)
		}
		if end.status != api.NoStatus {
			m.frames = nil
			m.tell(end)
		}
		trace = m.trace
	}()
	v := m.call(slices.IndexFunc(c.Funcs, func(f api.CodeFunc) bool { return f.Name == "main" }), event)
	panic(stopped{status: api.StDone, value: v})
}

func (m *model) tell(s stopped) {
	told := told(api.Machine{Status: s.status, Err: s.err, Value: s.value, Limits: m.limits, Steps: m.steps, Peak: m.peak})
	for _, f := range m.frames {
		told += fmt.Sprint(" frame ", f.Func, " ", f.Pc, " ", shownAll(f.Locals), " ", shownAll(f.Stack))
	}
	m.trace = append(m.trace, told+toldRequests(m.requests))
}

// note measures the memory, and tells a machine that has not ended.
func (m *model) note(status api.Status) {
	memory := 0
	for _, f := range m.frames {
		memory += len(slices.Concat(f.Locals...)) + len(slices.Concat(f.Stack...))
	}
	m.peak = max(m.peak, memory)
	mustBe(memory <= m.limits.Memory, api.ErrMemory)
	m.tell(stopped{status: status})
}

func (m *model) call(index int, args ...[]api.Cell) []api.Cell {
	f := &api.Frame{Func: index, Pc: m.Funcs[index].Entry, Locals: args}
	for len(f.Locals) < m.Funcs[index].Locals {
		f.Locals = append(f.Locals, []api.Cell{{Kind: api.Null}})
	}
	m.frames = append(m.frames, f)
	for {
		m.note(api.StRunning)
		mustBe(m.steps < m.limits.Steps, api.ErrSteps)
		in := m.Ins[f.Pc]
		m.steps++
		f.Pc++
		if in.Op == api.OpReturn {
			m.frames = m.frames[:len(m.frames)-1]
			return f.Stack[0]
		}
		m.execute(f, in)
	}
}

func (m *model) execute(f *api.Frame, in api.Ins) {
	pop := func() []api.Cell {
		v := f.Stack[len(f.Stack)-1]
		f.Stack = f.Stack[:len(f.Stack)-1]
		return v
	}
	pops := func(n int) [][]api.Cell {
		l := make([][]api.Cell, n)
		for i := range n {
			l[n-1-i] = pop()
		}
		return l
	}
	push := func(v []api.Cell) { f.Stack = append(f.Stack[:len(f.Stack):len(f.Stack)], v) }
	one := func(c api.Cell) { push([]api.Cell{c}) }
	switch in.Op {
	case api.OpNull:
		one(api.Cell{Kind: api.Null})
	case api.OpBool:
		one(api.Cell{Kind: api.Bool, Int: in.A})
	case api.OpInt:
		one(api.Cell{Kind: api.Int, Int: in.A})
	case api.OpStr:
		one(api.Cell{Kind: api.Str, Str: in.S})
	case api.OpLoad:
		push(f.Locals[in.A])
	case api.OpStore:
		f.Locals[in.A] = pop()
	case api.OpPop:
		pop()
	case api.OpDup:
		push(f.Stack[len(f.Stack)-1])
	case api.OpUnary:
		push(must(eval.Unary(in.S, pop())))
	case api.OpBinary:
		right, left := pop(), pop()
		push(must(eval.Binary(in.S, left, right)))
	case api.OpIndex:
		place, v := pop(), pop()
		push(must(eval.Index(v, place)))
	case api.OpBuilt:
		push(must(eval.Builtin(in.S, pops(in.A))))
	case api.OpList, api.OpMap:
		push(m.group(in, pops(in.A)))
	case api.OpJump:
		f.Pc = in.A
	case api.OpFalse:
		v := pop()
		mustBe(v[0].Kind == api.Bool, api.ErrType)
		if v[0].Int == 0 {
			f.Pc = in.A
		}
	case api.OpTest:
		mustBe(f.Stack[len(f.Stack)-1][0].Kind == api.Bool, api.ErrType)
	case api.OpCall:
		args := pops(m.Funcs[in.A].Params)
		mustBe(len(m.frames) < mostCalls, api.ErrStack)
		push(m.call(in.A, args...))
	case api.OpHost:
		push(m.ask(in.S, pops(in.A)))
	}
}

// group returns a list or a map.
func (m *model) group(in api.Ins, parts [][]api.Cell) []api.Cell {
	v := []api.Cell{{Kind: api.List, N: in.A}}
	if in.Op == api.OpMap {
		v[0].Kind = api.Map
	}
	for i, part := range parts {
		if in.Op == api.OpMap {
			v = append(v, api.Cell{Kind: api.Str, Str: in.Keys[i]})
		}
		v = append(v, part...)
	}
	mustBe(value.Check(v) == api.OK, api.ErrLimit)
	return v
}

// ask returns the answer to a request.
func (m *model) ask(op string, args [][]api.Cell) []api.Cell {
	mustBe(len(m.requests) < mostRequests, api.ErrLimit)
	m.requests = append(m.requests, api.Request{Op: op, Args: args})
	m.note(api.StWaiting)
	if len(m.answers) == 0 {
		panic(stopped{})
	}
	a := m.answers[0]
	m.answers = m.answers[1:]
	must(nil, a.Err)
	mustBe(value.Check(a.Value) == api.OK, api.ErrCorrupt)
	return a.Value
}

// machineTrace does with Step and Answer what modelTrace does, and checks the limits on the way. It returns the last machine, too.
func machineTrace(t *testing.T, c api.Code, event []api.Cell, l api.Limits, answers []api.Answer) ([]string, api.Machine) {
	t.Helper()
	m, err := Start(c, event, l)
	if err != api.OK {
		t.Fatal(c, event, l, err)
	}
	var trace []string
	for {
		trace = append(trace, told(m))
		if memory := Memory(m); m.Peak < memory || m.Status != api.StFailed && memory > l.Memory || m.Steps > l.Steps {
			t.Fatal(memory, told(m))
		}
		switch {
		case m.Status == api.StRunning:
			m = Step(c, m)
		case m.Status == api.StWaiting && len(answers) > 0:
			if m, err = Answer(m, answers[0]); err != api.OK {
				t.Fatal(told(m), err)
			}
			answers = answers[1:]
		default:
			return trace, m
		}
	}
}

// checkTrace compares the machines of a code with those of the model, and returns the last one.
func checkTrace(t *testing.T, c api.Code, event []api.Cell, l api.Limits, answers []api.Answer) api.Machine {
	t.Helper()
	got, m := machineTrace(t, c, event, l, answers)
	want := modelTrace(c, event, l, answers)
	for i := range min(len(got), len(want)) {
		if got[i] != want[i] {
			t.Fatalf("%v %s %v %v: %d\n%s\nnot\n%s", c, shown(event), l, answers, i, got[i], want[i])
		}
	}
	if len(got) != len(want) {
		t.Fatalf("%v %s %v %v: %d machines, not %d", c, shown(event), l, answers, len(got), len(want))
	}
	return m
}
