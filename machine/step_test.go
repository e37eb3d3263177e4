package machine

import (
	"fmt"
	"slices"
	"strconv"
	"strings"
	"testing"

	"faas/api"
)

// P13.2: each operation, by how the machine ends, with its steps, its peak and its requests.
func TestOperations(t *testing.T) {
	for _, c := range []struct{ body, want string }{
		{"null; return", "done null, 2 4"},
		{"bool 0; return", "done false, 2 4"},
		{"bool 1; return", "done true, 2 4"},
		{"int -1000000000000; return", "done -1000000000000, 2 4"},
		{"str ab; return", `done "ab", 2 4`},
		{"str; return", `done "", 2 4`},
		{"load 0; return", "done [5,6], 2 6"},
		{"load 0; load 0; binary +; return", "done [5,6,5,6], 4 9"},
		{"int 9; store 0; load 0; return", "done 9, 4 4"},
		{"int 9; load 0; pop; return", "done 9, 4 7"},
		{"int 9; dup; binary +; return", "done 18, 4 5"},
		{"load 0; dup; list 2; return", "done [[5,6],[5,6]], 4 10"},
		{"int 5; unary -; return", "done -5, 3 4"},
		{"bool 1; unary not; return", "done false, 3 4"},
		{"int 7; int 2; binary -; return", "done 5, 4 5"},
		{"int 7; int 2; binary %; return", "done 1, 4 5"},
		{"load 0; int 1; index; return", "done 6, 4 7"},
		{"list 0; return", "done [], 2 4"},
		{"int 1; int 2; int 3; list 3; return", "done [1,2,3], 5 7"},
		{"int 1; int 2; int 3; list 2; binary ==; return", "done false, 6 7"},
		{"map 0; return", "done {}, 2 4"},
		{"int 1; int 2; map 2 a b; return", `done {"a":1,"b":2}, 4 8`},
		{"jump 3; null; return; int 4; return", "done 4, 3 4"},
		{"bool 0; false 4; int 1; return; int 2; return", "done 2, 4 4"},
		{"bool 1; false 4; int 1; return; int 2; return", "done 1, 4 4"},
		{"bool 0; test; return", "done false, 3 4"},
		{"bool 1; test; return", "done true, 3 4"},
		{"load 0; built 1 len; return", "done 2, 3 6"},
		{"load 0; int 7; built 2 push; return", "done [5,6,7], 4 7"},
		{"map 0; str k; int 3; built 3 put; return", `done {"k":3}, 5 6`},
		{"host 0 now; return", "waits, 1 3 now()"},
		{"str k; host 1 get; return", `waits, 2 4 get("k")`},
		{"int 8; str k; load 0; host 2 put; list 2; return", `waits, 4 8 put("k" [5,6])`},
	} {
		code := mainOf(t, 1, c.body)
		if got := summary(ended(t, code, started(t, code, "[5,6]", most))); got != c.want {
			t.Errorf("%s: %s, not %s", c.body, got, c.want)
		}
		checkTrace(t, code, cells(t, "[5,6]"), most, nil)
	}
}

// P13.2: the errors of each operation. The step counts, the peak does not.
func TestErrors(t *testing.T) {
	long := strings.Repeat("s", 200)
	lists := func(n int) string { return strings.Repeat("list 1; ", n) }
	for _, c := range []struct{ body, want string }{
		{"null; unary -; return", "failed 7, 2 2"},
		{"int 1; unary not; return", "failed 7, 2 2"},
		{"int 1; null; binary +; return", "failed 7, 3 3"},
		{"int 1; int 0; binary /; return", "failed 9, 3 3"},
		{"int 1000000000000; int 1; binary +; return", "failed 8, 3 3"},
		{"str " + long + "; str a; binary +; return", "failed 3, 3 3"},
		{"int 1; int 0; index; return", "failed 7, 3 3"},
		{"list 0; int 0; index; return", "failed 2, 3 3"},
		{"int 1; built 1 len; return", "failed 7, 2 2"},
		{"int 1; built 1 fail; return", "failed 20, 2 2"},
		{"int 1; false 2; null; return", "failed 7, 2 2"},
		{"null; false 2; null; return", "failed 7, 2 2"},
		{"str true; false 2; null; return", "failed 7, 2 2"},
		{"list 0; false 2; null; return", "failed 7, 2 2"},
		{"int 0; test; return", "failed 7, 2 2"},
		{"null; test; return", "failed 7, 2 2"},
		{"map 0; test; return", "failed 7, 2 2"},
		{"list 0; " + lists(7) + "return", "done [[[[[[[[]]]]]]]], 9 9"},
		{"list 0; " + lists(8) + "return", "failed 3, 9 9"},
		{"list 0; " + lists(7) + "map 1 k; return", "failed 3, 9 9"},
	} {
		code := mainOf(t, 1, c.body)
		m := ended(t, code, started(t, code, "0", most))
		if got := summary(m); got != c.want || len(m.Frames) > 0 && m.Status == api.StFailed {
			t.Errorf("%s: %s, not %s", c.body, got, c.want)
		}
		checkTrace(t, code, cells(t, "0"), most, nil)
	}
}

// P13.2: lists and maps at the limits of values.
func TestGroups(t *testing.T) {
	event := "[5,6]"
	for body, want := range map[string]string{
		"64 list 64":                                           "done", // 1 + 64 * 3 cells
		"32 list 32; dup; load 0; list 3":                      "done", // 1 + 97 + 97 + 3
		"32 list 32; dup; load 0; null; list 4":                "done", // one more
		"32 list 32; dup; load 0; null; list 1; list 4":        "done", // 200
		"32 list 32; dup; load 0; null; list 0; list 5":        "done", // 200
		"32 list 32; dup; load 0; null; dup; list 2; list 4":   "failed 3",
		"32 list 32; dup; load 0; null; dup; list 0; list 6":   "failed 3",
		"32 list 32; dup; map 2 a b":                           "done", // 1 + 98 + 98
		"32 list 32; dup; null; map 3 a b c":                   "done", // 199
		"32 list 32; dup; list 0; list 1; map 3 a b c":         "done", // 200
		"32 list 32; dup; load 0; map 3 a b c":                 "failed 3",
		"32 list 32; dup; null; dup; map 4 a b c d":            "failed 3",
		"32 list 32; dup; binary +; dup; binary ==; unary not": "done false, 39",
	} {
		loads, rest, _ := strings.Cut(body, " ")
		n, err := strconv.Atoi(loads)
		if err != nil {
			t.Fatal(err)
		}
		code := mainOf(t, 1, strings.Repeat("load 0; ", n)+rest+"; return")
		if got := summary(ended(t, code, started(t, code, event, most))); !strings.HasPrefix(got, want) {
			t.Errorf("%s: %s, not %s", body, got, want)
		}
		checkTrace(t, code, cells(t, event), most, nil)
	}
	// The text of a list: 1 byte, and 201 for each string.
	for n, want := range map[int]string{19: "done", 20: "failed 3"} {
		code := mainOf(t, 1, strings.Repeat("load 0; ", n)+fmt.Sprint("list ", n, "; return"))
		event := `"` + strings.Repeat("x", 198) + `"`
		if got := summary(ended(t, code, started(t, code, event, most))); !strings.HasPrefix(got, want) {
			t.Error(n, got)
		}
		checkTrace(t, code, cells(t, event), most, nil)
	}
}

// P13.2: the machines on the way through a call, with all their parts.
func TestFrames(t *testing.T) {
	c := assembled(t,
		"add 2 3: load 0; load 1; binary +; store 2; load 2; return",
		"main 1 2: int 10; load 0; call 0; store 1; load 1; host 1 get; return")
	event := cells(t, "7")
	answers := answered(t, "[3]")
	want := []string{
		"status 1 0 value [] limits 50 50 steps 0 peak 2 frame 1 6 (7 null) ()",
		"status 1 0 value [] limits 50 50 steps 1 peak 3 frame 1 7 (7 null) (10)",
		"status 1 0 value [] limits 50 50 steps 2 peak 4 frame 1 8 (7 null) (10 7)",
		"status 1 0 value [] limits 50 50 steps 3 peak 5 frame 1 9 (7 null) () frame 0 0 (10 7 null) ()",
		"status 1 0 value [] limits 50 50 steps 4 peak 6 frame 1 9 (7 null) () frame 0 1 (10 7 null) (10)",
		"status 1 0 value [] limits 50 50 steps 5 peak 7 frame 1 9 (7 null) () frame 0 2 (10 7 null) (10 7)",
		"status 1 0 value [] limits 50 50 steps 6 peak 7 frame 1 9 (7 null) () frame 0 3 (10 7 null) (17)",
		"status 1 0 value [] limits 50 50 steps 7 peak 7 frame 1 9 (7 null) () frame 0 4 (10 7 17) ()",
		"status 1 0 value [] limits 50 50 steps 8 peak 7 frame 1 9 (7 null) () frame 0 5 (10 7 17) (17)",
		"status 1 0 value [] limits 50 50 steps 9 peak 7 frame 1 9 (7 null) (17)",
		"status 1 0 value [] limits 50 50 steps 10 peak 7 frame 1 10 (7 17) ()",
		"status 1 0 value [] limits 50 50 steps 11 peak 7 frame 1 11 (7 17) (17)",
		"status 2 0 value [] limits 50 50 steps 12 peak 7 frame 1 12 (7 17) () get(17)",
		"status 1 0 value [] limits 50 50 steps 12 peak 7 frame 1 12 (7 17) ([3]) get(17)",
		"status 3 0 value [3] limits 50 50 steps 13 peak 7 get(17)",
	}
	got, _ := machineTrace(t, c, event, api.Limits{Steps: 50, Memory: 50}, answers)
	for i := range max(len(got), len(want)) {
		if i >= len(got) || i >= len(want) || got[i] != want[i] {
			t.Fatal(i, got[min(i, len(got)-1)], want[min(i, len(want)-1)])
		}
	}
	checkTrace(t, c, event, api.Limits{Steps: 50, Memory: 50}, answers)
}

// P13.2: calls of several functions, each with variables of its own, which are null at first.
func TestCalls(t *testing.T) {
	for _, c := range []struct {
		functions []string
		want      string
	}{
		{[]string{"main 1 1: call 1; return", "f 0 0: int 4; return"}, "done 4"},
		{[]string{"main 1 1: call 1; return", "f 0 3: load 0; load 1; load 2; list 3; return"}, "done [null,null,null]"},
		{[]string{"f 3 3: load 2; load 1; load 0; list 3; return", "main 1 1: int 1; int 2; int 3; call 0; return"}, "done [3,2,1]"},
		{[]string{"f 1 2: load 1; load 0; store 1; return", "main 1 2: int 8; store 1; int 1; call 0; int 2; call 0; load 1; list 3; return"}, "done [null,null,8]"},
		{[]string{"main 1 1: load 0; built 1 len; int 0; binary ==; false 7; load 0; return; list 0; call 0; return"}, "done []"},
		{[]string{"f 1 1: load 0; built 1 fail; return", "main 1 1: int 1; call 0; pop; int 2; return"}, "failed 20"},
		{[]string{"f 8 32: load 7; load 31; list 2; return", "main 1 1: int 0; int 1; int 2; int 3; int 4; int 5; int 6; int 7; call 0; return"}, "done [7,null]"},
	} {
		code := assembled(t, c.functions...)
		if got := summary(ended(t, code, started(t, code, "[5,6]", most))); !strings.HasPrefix(got, c.want+",") {
			t.Errorf("%s: %s, not %s", c.functions, got, c.want)
		}
		checkTrace(t, code, cells(t, "[5,6]"), most, nil)
	}
}

// P13.2: there are at most MaxCalls frames. Those of calls that have ended do not count.
func TestStack(t *testing.T) {
	down := assembled(t,
		"main 1 1: load 0; call 1; return",
		"f 1 1: load 0; int 1; binary >; false 12; load 0; int 1; binary -; call 1; return; str end; return")
	for n, want := range map[int]string{1: `done "end"`, mostCalls - 1: `done "end"`, mostCalls: "failed 21", mostCalls + 1: "failed 21"} {
		if got := summary(ended(t, down, started(t, down, fmt.Sprint(n), most))); !strings.HasPrefix(got, want) {
			t.Error(n, got)
		}
		checkTrace(t, down, cells(t, fmt.Sprint(n)), most, nil)
	}
	endless := mainOf(t, 1, "load 0; call 0; return")
	m := started(t, endless, "0", most)
	for frames := 1; frames <= mostCalls; frames++ {
		if len(m.Frames) != frames || Memory(m) != frames {
			t.Error(frames, told(m))
		}
		m = Run(endless, m, 2)
	}
	if got := summary(m); got != fmt.Sprint("failed 21, ", 2*mostCalls, " ", mostCalls+1) || m.Frames != nil {
		t.Error(got)
	}
	again := assembled(t, "f 0 0: null; return", "main 1 1: "+strings.Repeat("call 0; pop; ", 50)+"int 1; return")
	if got := summary(ended(t, again, started(t, again, "0", most))); got != "done 1, 202 2" {
		t.Error(got)
	}
}

// P13.2: the limit of steps, to the step. A machine that is done or waits is not touched by it.
func TestSteps(t *testing.T) {
	c := mainOf(t, 1, "int 1; pop; host 0 now; pop; int 5; return")
	for limit := 1; limit < 8; limit++ {
		l := api.Limits{Steps: limit, Memory: 10}
		want := "done 5, 6 2 now()"
		switch {
		case limit < 3:
			want = fmt.Sprint("failed 15, ", limit, " 2")
		case limit < 6:
			want = fmt.Sprint("failed 15, ", limit, " 2 now()")
		}
		if got := summary(ended(t, c, started(t, c, "0", l), answered(t, "1")...)); got != want {
			t.Errorf("%d: %s, not %s", limit, got, want)
		}
		checkTrace(t, c, cells(t, "0"), l, answered(t, "1"))
	}
	m := Run(c, started(t, c, "0", api.Limits{Steps: 2, Memory: 10}), 2)
	if m.Status != api.StRunning || m.Steps != 2 {
		t.Error(told(m))
	}
	loop := mainOf(t, 1, "jump 0")
	for _, limit := range []int{1, 1000, mostSteps - 1, mostSteps} {
		m := Run(loop, started(t, loop, "0", api.Limits{Steps: limit, Memory: 1}), mostSteps+1)
		if got := summary(m); got != fmt.Sprint("failed 15, ", limit, " 1") || m.Frames != nil {
			t.Error(limit, got)
		}
	}
}

// P13.1, P13.2: the limit of memory, to the cell: at the start, for a constant, a variable, a call, and a result.
func TestMemoryLimit(t *testing.T) {
	for _, c := range []struct {
		functions []string
		peaks     []int // with a limit from 1 on: the peak with which it fails, and then the one with which it is done
	}{
		{[]string{"main 1 1: load 0; return"}, []int{3, 3, 6, 6, 6, 6}},
		{[]string{"main 1 4: null; return"}, []int{6, 6, 6, 6, 6, 7, 7}},
		{[]string{"main 1 1: load 0; dup; pop; return"}, []int{3, 3, 6, 6, 6, 9, 9, 9, 9}},
		{[]string{"main 1 1: null; store 0; load 0; return"}, []int{3, 3, 4, 4}},
		{[]string{"main 1 1: null; call 1; return", "f 1 3: null; return"}, []int{3, 3, 4, 6, 6, 7, 7}},
		{[]string{"main 1 1: null; null; list 2; return"}, []int{3, 3, 4, 5, 6, 6}},
		{[]string{"main 1 1: null; call 1; return", "f 1 1: list 0; list 1; list 1; return"}, []int{3, 3, 4, 5, 6, 7, 7}},
	} {
		code := assembled(t, c.functions...)
		for i, peak := range c.peaks {
			m := ended(t, code, started(t, code, "[5,6]", api.Limits{Steps: 100, Memory: i + 1}))
			want := api.StFailed
			if i == len(c.peaks)-1 {
				want = api.StDone
			}
			if m.Peak != peak || m.Status != want || want == api.StFailed && (m.Err != api.ErrMemory || m.Frames != nil) {
				t.Error(c.functions, i+1, told(m))
			}
			checkTrace(t, code, cells(t, "[5,6]"), api.Limits{Steps: 100, Memory: i + 1}, nil)
		}
	}
	// MaxMemory: 20 times the event are 3960 cells, with 16 other variables, and 24 values on the stack.
	c := mainOf(t, 17, strings.Repeat("load 0; ", 19)+"null; "+strings.Repeat("dup; ", 23)+"pop; host 0 now; "+strings.Repeat("pop; ", 42)+"return")
	event := "[" + strings.Repeat("1,", 196) + "1]"
	m := ended(t, c, started(t, c, event, most))
	if m.Status != api.StWaiting || m.Peak != mostMemory || Memory(m) != mostMemory-1 {
		t.Error(m.Status, m.Peak, Memory(m))
	}
	for v, want := range map[string]string{"1": "running", "[]": "running", "[1]": "failed 16"} {
		next, err := Answer(m, answered(t, v)[0])
		if err != api.OK || !strings.HasPrefix(summary(next), want) || next.Steps != m.Steps || next.Peak != max(mostMemory, mostMemory-1+len(cells(t, v))) {
			t.Error(v, next.Status, next.Err, next.Steps, next.Peak, err)
		}
	}
}

// P13.2: MaxRequests requests, and one more.
func TestRequestLimit(t *testing.T) {
	c := mainOf(t, 1, "host 0 now; pop; jump 0")
	m := started(t, c, "0", most)
	for k := range mostRequests {
		m = Run(c, m, 3)
		if m.Status != api.StWaiting || len(m.Requests) != k+1 || m.Steps != 3*k+1 {
			t.Fatal(k, told(m))
		}
		next, err := Answer(m, api.Answer{Value: cells(t, "5")})
		if err != api.OK {
			t.Fatal(err)
		}
		m = next
	}
	m = Run(c, m, 3)
	if got := summary(m); got != fmt.Sprint("failed 3, ", 3*mostRequests+1, " 2", strings.Repeat(" now()", mostRequests)) || m.Frames != nil {
		t.Error(got)
	}
	checkTrace(t, c, cells(t, "0"), most, answered(t, slices.Repeat([]string{"5"}, mostRequests+2)...))
}

// P13.2: a machine that does not run is returned as it is.
func TestResting(t *testing.T) {
	c := mainOf(t, 1, "str k; host 1 get; return")
	start := started(t, c, "[1]", most)
	waiting := ended(t, c, start)
	resting := []api.Machine{waiting, ended(t, c, start, answered(t, "[2]")...), ended(t, c, start, answered(t, "!12")...), started(t, c, "[1]", api.Limits{Steps: 1, Memory: 1})}
	for i, status := range []api.Status{api.StWaiting, api.StDone, api.StFailed, api.StFailed} {
		m := resting[i]
		if m.Status != status {
			t.Error(i, told(m))
		}
		before := told(m)
		for _, next := range []api.Machine{Step(c, m), Run(c, m, 0), Run(c, m, 1), Run(c, m, 1000), Run(c, m, -1)} {
			if told(next) != before || told(m) != before {
				t.Error(before, told(next))
			}
		}
	}
}

// P13.1 to P13.4: the examples of the chapter.
func TestExamples(t *testing.T) {
	c := mainOf(t, 1, "load 0; return")
	m := started(t, c, "7", most)
	if Memory(m) != 1 || m.Peak != 1 || m.Steps != 0 {
		t.Error(told(m))
	}
	if m = Step(c, m); Memory(m) != 2 || m.Status != api.StRunning {
		t.Error(told(m))
	}
	if m = Step(c, m); summary(m) != "done 7, 2 2" {
		t.Error(told(m))
	}
	m = Step(c, Step(c, started(t, c, "7", api.Limits{Steps: 1, Memory: 9})))
	if summary(m) != "failed 15, 1 2" {
		t.Error(told(m))
	}
	m = Step(c, started(t, c, "7", api.Limits{Steps: 9, Memory: 1}))
	if summary(m) != "failed 16, 1 2" {
		t.Error(told(m))
	}
	c = mainOf(t, 1, "host 0 now; return")
	m = Step(c, started(t, c, "7", most))
	if summary(Step(c, m)) != "waits, 1 1 now()" {
		t.Error(told(Step(c, m)))
	}
	m, err := Answer(m, api.Answer{Err: api.ErrDenied})
	if err != api.OK || summary(m) != "failed 12, 1 1 now()" {
		t.Error(told(m), err)
	}
}
