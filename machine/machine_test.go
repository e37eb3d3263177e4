package machine

import (
	"fmt"
	"slices"
	"strings"
	"testing"

	"faas/api"
	"faas/code"
)

var null = []api.Cell{{Kind: api.Null}}

// bad are values that are not valid.
var bad = []struct {
	v   []api.Cell
	err api.Errno
}{
	{nil, api.ErrSyntax},
	{[]api.Cell{{}}, api.ErrSyntax},
	{[]api.Cell{{Kind: api.Null, N: 1}}, api.ErrSyntax},
	{[]api.Cell{{Kind: api.Null}, {Kind: api.Null}}, api.ErrSyntax},
	{[]api.Cell{{Kind: api.Bool, Int: 2}}, api.ErrSyntax},
	{[]api.Cell{{Kind: api.Str, Str: "\n"}}, api.ErrSyntax},
	{[]api.Cell{{Kind: api.List, N: 2}, {Kind: api.Null}}, api.ErrSyntax},
	{[]api.Cell{{Kind: api.Map, N: 1}, {Kind: api.Null}, {Kind: api.Null}}, api.ErrSyntax},
	{[]api.Cell{{Kind: api.Int, Int: 1000000000001}}, api.ErrRange},
	{[]api.Cell{{Kind: api.Int, Int: -1 << 63}}, api.ErrRange},
	{[]api.Cell{{Kind: api.Str, Str: strings.Repeat("s", 201)}}, api.ErrLimit},
	{append([]api.Cell{{Kind: api.List, N: 200}}, slices.Repeat([]api.Cell{{Kind: api.Null}}, 200)...), api.ErrLimit},
	{slices.Concat(slices.Repeat([]api.Cell{{Kind: api.List, N: 1}}, 8), null), api.ErrLimit},
}

// P13.1: the machine that Start returns.
func TestStart(t *testing.T) {
	c := assembled(t, "f 2 5: null; return", "main 1 3: load 0; return", "g 0 0: null; return")
	event := cells(t, `{"a":[1]}`)
	for _, l := range []api.Limits{{Steps: 1, Memory: 6}, {Steps: mostSteps, Memory: mostMemory}, {Steps: 77, Memory: 7}} {
		m, err := Start(c, event, l)
		want := api.Machine{Status: api.StRunning, Frames: []api.Frame{{Func: 1, Pc: 2, Locals: [][]api.Cell{event, null, null}}}, Limits: l, Peak: 6}
		if err != api.OK || told(m) != told(want) || !Same(m, want) {
			t.Error(l, told(m), err)
		}
	}
	for memory := 1; memory < 6; memory++ {
		l := api.Limits{Steps: 5, Memory: memory}
		m, err := Start(c, event, l)
		want := api.Machine{Status: api.StFailed, Err: api.ErrMemory, Limits: l, Peak: 6}
		if err != api.OK || told(m) != told(want) || !Same(m, want) {
			t.Error(l, told(m), err)
		}
	}
	// The longest event with the most variables.
	c = mainOf(t, 32, "null; return")
	event = append([]api.Cell{{Kind: api.List, N: 199}}, slices.Repeat(null, 199)...)
	m, err := Start(c, event, api.Limits{Steps: 1, Memory: 231})
	if err != api.OK || m.Status != api.StRunning || m.Peak != 231 {
		t.Error(told(m), err)
	}
}

// P13.1: the errors of Start, in their order.
func TestStartErrors(t *testing.T) {
	ret := []api.Ins{{Op: api.OpNull}, {Op: api.OpReturn}}
	of := func(name string, params int, ins ...api.Ins) api.Code {
		return api.Code{Funcs: []api.CodeFunc{{Name: name, Params: params, Locals: params, End: len(ins)}}, Ins: ins}
	}
	codes := []struct {
		c   api.Code
		err api.Errno
	}{
		{of("main", 1, ret...), api.OK},
		{of("main", 0, make([]api.Ins, 4001)...), api.ErrLimit},
		{of("1", 1, ret...), api.ErrName},
		{of("main", 9, ret...), api.ErrRange},
		{of("main", 1), api.ErrOrder},
		{api.Code{Ins: ret}, api.ErrOrder},
		{of("main", 0, api.Ins{Op: 99}), api.ErrSyntax},
		{of("f", 1, api.Ins{Op: api.OpNull}), api.ErrState},
		{of("f", 1, api.Ins{Op: api.OpReturn}), api.ErrStack},
		{api.Code{}, api.ErrNone},
		{of("f", 1, ret...), api.ErrNone},
		{of("main1", 1, ret...), api.ErrNone},
		{of("main", 0, ret...), api.ErrType},
		{of("main", 2, ret...), api.ErrType},
	}
	limits := []api.Limits{most, {Steps: 1, Memory: 1}, {}, {Steps: 0, Memory: 1}, {Steps: 1, Memory: 0}, {Steps: -1, Memory: 1}, {Steps: 1, Memory: -1}, {Steps: mostSteps + 1, Memory: 1}, {Steps: 1, Memory: mostMemory + 1}, {Steps: 1 << 62, Memory: -1 << 63}}
	for _, c := range codes {
		for i := -1; i < len(bad); i++ {
			event, eventErr := cells(t, "1"), api.OK
			if i >= 0 {
				event, eventErr = bad[i].v, bad[i].err
			}
			for k, l := range limits {
				limitErr := api.OK
				if k > 1 {
					limitErr = api.ErrRange
				}
				want := c.err
				for _, err := range []api.Errno{eventErr, limitErr} {
					if want == api.OK {
						want = err
					}
				}
				m, err := Start(c.c, event, l)
				if err != want || err != api.OK && !Same(m, api.Machine{}) || err == api.OK && m.Status != api.StRunning {
					t.Errorf("%v %v %v: %s %d, not %d", c.c.Funcs, event, l, told(m), err, want)
				}
			}
		}
	}
}

// P13.3, P13.7: Run does as many steps, in one or several parts.
func TestRun(t *testing.T) {
	c := mainOf(t, 2, "load 0; load 1; binary ==; false 7; int 1; host 1 log; pop; null; store 1; load 0; list 1; store 0; jump 0")
	answers := answered(t, "1", "2", "3")
	m := started(t, c, "null", api.Limits{Steps: 200, Memory: 40})
	var steps []api.Machine
	for m.Status == api.StRunning {
		steps = append(steps, m)
		m = Step(c, m)
	}
	if m.Status != api.StWaiting || len(steps) != 6 {
		t.Fatal(told(m))
	}
	m, err := Answer(m, answers[0])
	for err == api.OK && m.Status == api.StRunning {
		steps = append(steps, m)
		m = Step(c, m)
	}
	steps = append(steps, m)
	if m.Status != api.StFailed || m.Err != api.ErrLimit || len(steps) < 30 {
		t.Fatal(told(m), len(steps))
	}
	for i, m := range steps {
		for n := -2; n < len(steps)+3; n++ {
			want := min(i+max(n, 0), len(steps)-1)
			if i < 6 && want > 5 {
				continue // it waits there
			}
			got := Run(c, m, n)
			if told(got) != told(steps[want]) {
				t.Fatalf("%d %d: %s, not %s", i, n, told(got), told(steps[want]))
			}
		}
	}
	if got := Run(c, steps[0], 1<<62); got.Status != api.StWaiting || got.Steps != 6 {
		t.Error(told(got))
	}
	if got := Run(c, steps[7], 1<<62); !Same(got, m) {
		t.Error(told(got))
	}
	if got := Run(c, steps[7], -1<<63); !Same(got, steps[7]) {
		t.Error(told(got))
	}
}

// P13.4: the answer to a request.
func TestAnswer(t *testing.T) {
	c := mainOf(t, 1, "int 3; str k; host 1 get; list 2; return")
	m := ended(t, c, started(t, c, "[1]", api.Limits{Steps: 9, Memory: 9}))
	if told(m) != `status 2 0 value [] limits 9 9 steps 3 peak 4 frame 0 3 ([1]) (3) get("k")` {
		t.Fatal(told(m))
	}
	for _, c := range []struct{ answer, want string }{
		{"null", `status 1 0 value [] limits 9 9 steps 3 peak 4 frame 0 3 ([1]) (3 null) get("k")`},
		{"5", `status 1 0 value [] limits 9 9 steps 3 peak 4 frame 0 3 ([1]) (3 5) get("k")`},
		{"[5]", `status 1 0 value [] limits 9 9 steps 3 peak 5 frame 0 3 ([1]) (3 [5]) get("k")`},
		{"[1,2,3,4,5]", `status 1 0 value [] limits 9 9 steps 3 peak 9 frame 0 3 ([1]) (3 [1,2,3,4,5]) get("k")`},
		{"[1,2,3,4,5,6]", `status 4 16 value [] limits 9 9 steps 3 peak 10 get("k")`},
		{"!12", `status 4 12 value [] limits 9 9 steps 3 peak 4 get("k")`},
		{"!-5", `status 4 -5 value [] limits 9 9 steps 3 peak 4 get("k")`},
		{"!1000", `status 4 1000 value [] limits 9 9 steps 3 peak 4 get("k")`},
		{"?", `status 4 13 value [] limits 9 9 steps 3 peak 4 get("k")`},
	} {
		before := told(m)
		next, err := Answer(m, answered(t, c.answer)[0])
		if err != api.OK || told(next) != c.want || told(m) != before {
			t.Errorf("%s: %d %s, not %s", c.answer, err, told(next), c.want)
		}
	}
	for _, b := range bad {
		next, err := Answer(m, api.Answer{Value: b.v})
		if err != api.OK || told(next) != `status 4 13 value [] limits 9 9 steps 3 peak 4 get("k")` {
			t.Error(b.v, told(next), err)
		}
		next, err = Answer(m, api.Answer{Err: api.ErrDown, Value: b.v})
		if err != api.OK || told(next) != `status 4 22 value [] limits 9 9 steps 3 peak 4 get("k")` {
			t.Error(b.v, told(next), err)
		}
	}
	next, err := Answer(m, api.Answer{Err: api.ErrDown, Value: null})
	if err != api.OK || next.Err != api.ErrDown {
		t.Error(told(next), err)
	}
}

// P13.4: only a machine that waits can be answered.
func TestAnswerState(t *testing.T) {
	c := mainOf(t, 1, "host 0 now; return")
	start := started(t, c, "1", most)
	waiting := Step(c, start)
	running, err := Answer(waiting, api.Answer{Value: null})
	if err != api.OK || running.Status != api.StRunning {
		t.Fatal(told(running), err)
	}
	for _, m := range []api.Machine{start, running, Step(c, running), ended(t, c, waiting, answered(t, "!1")...), {}, {Status: 5}, {Status: -1, Requests: waiting.Requests, Frames: waiting.Frames}} {
		for _, a := range []api.Answer{{Value: null}, {}, {Err: api.ErrDenied}} {
			if next, err := Answer(m, a); err != api.ErrState || !Same(next, api.Machine{}) {
				t.Error(told(m), a, told(next), err)
			}
		}
	}
}

// P13.4: the request that a machine waits for.
func TestPending(t *testing.T) {
	c := mainOf(t, 1, "str k; load 0; host 2 put; pop; host 0 now; return")
	m := started(t, c, "[1]", most)
	none := func(m api.Machine) {
		t.Helper()
		if q, ok := Pending(m); ok || q.Op != "" || q.Args != nil {
			t.Error(told(m), q, ok)
		}
	}
	one := func(m api.Machine, want string) {
		t.Helper()
		if q, ok := Pending(m); !ok || toldRequests([]api.Request{q}) != want {
			t.Error(told(m), q, ok)
		}
	}
	none(m)
	m = Run(c, m, 3)
	one(m, ` put("k" [1])`)
	m, _ = Answer(m, api.Answer{Value: null})
	none(m)
	m = Run(c, m, 2)
	one(m, " now()")
	failed, _ := Answer(m, api.Answer{Err: api.ErrDown})
	none(failed)
	m, _ = Answer(m, api.Answer{Value: null})
	none(m)
	none(Step(c, m))
	request := api.Request{Op: "?", Args: [][]api.Cell{nil, {{Kind: 9}}}}
	for status := api.Status(-1); status < 6; status++ {
		none(api.Machine{Status: status})
		m := api.Machine{Status: status, Requests: []api.Request{{Op: "a"}, request}, Err: 5, Value: null}
		if status != api.StWaiting {
			none(m)
		} else {
			one(m, " ?([] [{9 0  0}])")
		}
	}
}

// P13.5: the cells of all variables and stacks, whatever they are.
func TestMemory(t *testing.T) {
	values := [][]api.Cell{null, cells(t, "[1,[2]]"), nil, make([]api.Cell, 7)}
	for _, c := range []struct {
		frames []api.Frame
		want   int
	}{
		{nil, 0},
		{[]api.Frame{{}}, 0},
		{[]api.Frame{{Locals: [][]api.Cell{null}}}, 1},
		{[]api.Frame{{Stack: [][]api.Cell{null}}}, 1},
		{[]api.Frame{{Locals: values}}, 12},
		{[]api.Frame{{Stack: values}}, 12},
		{[]api.Frame{{Func: 9, Pc: 9, Locals: values, Stack: values[1:]}, {}, {Stack: values[:2]}, {Locals: values[3:]}}, 35},
	} {
		for _, status := range []api.Status{api.NoStatus, api.StRunning, api.StWaiting, api.StDone, api.StFailed, 9} {
			m := api.Machine{Status: status, Value: values[3], Requests: []api.Request{{Args: values}}, Frames: c.frames, Steps: 5, Peak: 99}
			if got := Memory(m); got != c.want {
				t.Error(c.frames, status, got)
			}
		}
	}
}

// P13.5: the outcome of all kinds of machines, also of such as there cannot be.
func TestOutcome(t *testing.T) {
	requests := []api.Request{{Op: "get", Args: [][]api.Cell{cells(t, `"k"`)}}, {Op: "?", Args: [][]api.Cell{nil, {{Kind: 9}}}}}
	frames := []api.Frame{{Locals: [][]api.Cell{null}}}
	for status := api.Status(-1); status < 7; status++ {
		for k := range 3 {
			m := api.Machine{Status: status, Err: api.ErrType, Value: cells(t, "[1]"), Frames: frames, Requests: requests[:k], Limits: most, Steps: 3, Peak: 4}
			want := api.Outcome{Requests: requests[:k]}
			switch status {
			case api.StDone:
				want.Done = true
				want.Value = m.Value
			case api.StFailed:
				want.Done = true
				want.Err = api.ErrType
			}
			if got := toldOutcome(Outcome(m)); got != toldOutcome(want) {
				t.Errorf("%d: %s, not %s", status, got, toldOutcome(want))
			}
		}
	}
}

// P13.5: machines that differ in one part are not the same.
func TestSame(t *testing.T) {
	full := func() api.Machine {
		return api.Machine{
			Status:   1,
			Err:      2,
			Value:    cells(t, "[1]"),
			Frames:   []api.Frame{{Func: 1, Pc: 2, Locals: [][]api.Cell{cells(t, `"a"`), cells(t, "[]")}, Stack: [][]api.Cell{cells(t, "2")}}, {Func: 5, Pc: 6}},
			Requests: []api.Request{{Op: "get", Args: [][]api.Cell{cells(t, "[5]"), cells(t, "6")}}, {Op: "now"}},
			Limits:   api.Limits{Steps: 7, Memory: 8},
			Steps:    9,
			Peak:     10,
		}
	}
	changes := []func(m *api.Machine){
		func(m *api.Machine) {},
		func(m *api.Machine) { m.Status = 2 },
		func(m *api.Machine) { m.Err = 0 },
		func(m *api.Machine) { m.Value = nil },
		func(m *api.Machine) { m.Value = m.Value[:1] },
		func(m *api.Machine) { m.Value = append(m.Value, null...) },
		func(m *api.Machine) { m.Value[1].Kind = api.Bool },
		func(m *api.Machine) { m.Value[1].Int = 0 },
		func(m *api.Machine) { m.Value[1].Str = "x" },
		func(m *api.Machine) { m.Value[0].N = 0 },
		func(m *api.Machine) { m.Frames = nil },
		func(m *api.Machine) { m.Frames = m.Frames[:1] },
		func(m *api.Machine) { m.Frames = m.Frames[1:] },
		func(m *api.Machine) { slices.Reverse(m.Frames) },
		func(m *api.Machine) { m.Frames = append(m.Frames, api.Frame{}) },
		func(m *api.Machine) { m.Frames[0].Func = 0 },
		func(m *api.Machine) { m.Frames[1].Pc = 0 },
		func(m *api.Machine) { m.Frames[0].Locals = nil },
		func(m *api.Machine) { m.Frames[0].Locals = m.Frames[0].Locals[:1] },
		func(m *api.Machine) { m.Frames[0].Locals = append(m.Frames[0].Locals, nil) },
		func(m *api.Machine) { slices.Reverse(m.Frames[0].Locals) },
		func(m *api.Machine) { m.Frames[0].Locals[0] = nil },
		func(m *api.Machine) { m.Frames[0].Locals[0][0].Str = "b" },
		func(m *api.Machine) { m.Frames[0].Stack = nil },
		func(m *api.Machine) { m.Frames[0].Stack = append(m.Frames[0].Stack, null) },
		func(m *api.Machine) { m.Frames[0].Stack[0][0].Int = 3 },
		func(m *api.Machine) { m.Frames[0].Stack[0] = nil },
		func(m *api.Machine) {
			m.Frames[0].Locals, m.Frames[0].Stack = append(m.Frames[0].Locals, m.Frames[0].Stack...), nil
		},
		func(m *api.Machine) { m.Requests = nil },
		func(m *api.Machine) { m.Requests = m.Requests[1:] },
		func(m *api.Machine) { m.Requests = append(m.Requests, api.Request{}) },
		func(m *api.Machine) { m.Requests[1].Op = "" },
		func(m *api.Machine) { m.Requests[0].Args = m.Requests[0].Args[:1] },
		func(m *api.Machine) { m.Requests[0].Args[0] = null },
		func(m *api.Machine) { m.Requests[0].Args[1][0].Int = 0 },
		func(m *api.Machine) { m.Requests[1].Args = [][]api.Cell{nil} },
		func(m *api.Machine) { m.Limits.Steps = 0 },
		func(m *api.Machine) { m.Limits.Memory = 0 },
		func(m *api.Machine) { m.Steps = 0 },
		func(m *api.Machine) { m.Peak = 0 },
		func(m *api.Machine) { *m = api.Machine{} },
	}
	for i := range changes {
		for k := range changes {
			a, b := full(), full()
			changes[i](&a)
			changes[k](&b)
			if Same(a, b) != (i == k) {
				t.Error(i, k)
			}
		}
	}
	empty := api.Machine{Value: []api.Cell{}, Frames: []api.Frame{}, Requests: []api.Request{}}
	if !Same(empty, api.Machine{}) || !Same(api.Machine{}, empty) {
		t.Error("empty lists")
	}
	a, b := full(), full()
	a.Frames[1].Locals, a.Frames[1].Stack, a.Requests[1].Args = [][]api.Cell{}, [][]api.Cell{}, [][]api.Cell{}
	a.Frames[0].Locals[1], b.Frames[0].Locals[1] = nil, []api.Cell{}
	if !Same(a, b) || !Same(b, a) {
		t.Error("empty lists")
	}
}

// P13.1, P13.2, P13.4: all codes of up to four instructions over those that matter, and one behind them that may be the last one.
func TestShortCodes(t *testing.T) {
	var alphabet []api.Ins
	for _, s := range []string{"null", "bool 0", "bool 1", "int 1", "load 0", "load 1", "store 1", "pop", "dup", "test", "binary ==", "list 2", "jump 0", "jump 2", "false 0", "false 3", "call 0", "host 0 now", "return"} {
		alphabet = append(alphabet, instruction(strings.Fields(s)))
	}
	answers := answered(t, "true", "2", "!7")
	event := cells(t, "[5]")
	ends := map[string]int{}
	check := func(ins []api.Ins) {
		c := api.Code{Funcs: []api.CodeFunc{{Name: "main", Params: 1, Locals: 2, End: len(ins)}}, Ins: ins}
		if _, err := code.Check(c); err == api.OK {
			m := checkTrace(t, c, event, api.Limits{Steps: 40, Memory: 40}, answers)
			ends[fmt.Sprint(m.Status, " ", m.Err)]++
		}
	}
	var extend func(ins []api.Ins)
	extend = func(ins []api.Ins) {
		check(append(ins, instruction([]string{"return"})))
		check(append(ins, instruction([]string{"jump", "0"})))
		if len(ins) < 4 {
			for _, in := range alphabet {
				extend(append(ins, in))
			}
		}
	}
	extend(nil)
	for _, s := range []string{"3 0", "4 7", "4 15", "4 16", "4 21"} {
		if ends[s] < 100 {
			t.Error(s, ends)
		}
	}
}
