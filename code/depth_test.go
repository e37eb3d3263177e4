package code

import (
	"slices"
	"testing"

	"faas/api"
)

// P11.2: the depths of codes that pass, among them the examples of the chapter.
func TestDepths(t *testing.T) {
	load := with(api.OpLoad, 0)
	for _, c := range []struct {
		ins  []api.Ins
		want []int
	}{
		{[]api.Ins{load, ret}, []int{0, 1}},
		{[]api.Ins{null, falseTo(0), null, ret}, []int{0, 1, 0, 1}},
		{[]api.Ins{jump(0)}, []int{0}},
		{[]api.Ins{jump(1), jump(0)}, []int{0, 0}},
		{[]api.Ins{null, ret, ret}, []int{0, 1, -1}},
		{[]api.Ins{null, ret, pop, plus, ret}, []int{0, 1, -1, -1, -1}},
		{[]api.Ins{jump(3), pop, ret, null, dup, jump(1)}, []int{0, 2, 1, 0, 1, 2}},
		{[]api.Ins{null, jump(1)}, []int{0, 1}},
		{[]api.Ins{null, null, null, jump(4), falseTo(5), falseTo(6), ret}, []int{0, 1, 2, 3, 3, 2, 1}},
		{[]api.Ins{null, falseTo(2), null, ret}, []int{0, 1, 0, 1}},
		{[]api.Ins{load, with(api.OpStore, 1), null, {Op: api.OpUnary, S: "not"}, test, dup, plus, dup, index, ret}, []int{0, 1, 0, 1, 1, 1, 2, 1, 2, 1}},
		{[]api.Ins{list(0), mapOf(), null, list(3), ret}, []int{0, 1, 2, 3, 1}},
		{[]api.Ins{null, list(1), dup, mapOf("a", "b"), ret}, []int{0, 1, 1, 2, 1}},
		{[]api.Ins{{Op: api.OpHost, S: "now"}, {Op: api.OpHost, S: "get", A: 1}, dup, dup, {Op: api.OpHost, S: "timer", A: 3}, ret}, []int{0, 1, 1, 2, 3, 1}},
		{[]api.Ins{str(""), dup, dup, {Op: api.OpBuilt, S: "put", A: 3}, dup, {Op: api.OpBuilt, S: "push", A: 2}, {Op: api.OpBuilt, S: "len", A: 1}, ret}, []int{0, 1, 2, 3, 1, 2, 1, 1}},
		{[]api.Ins{null, with(api.OpCall, 0), ret}, []int{0, 1, 1}},
		{[]api.Ins{with(api.OpBool, 1), with(api.OpInt, -3), pop, ret}, []int{0, 1, 2, 1}},
	} {
		if got, err := Depths(codeOf(c.ins...)); !slices.Equal(got, c.want) || err != api.OK {
			t.Errorf("%v: %v, %d, not %v", c.ins, got, err, c.want)
		}
		checkAll(t, codeOf(c.ins...))
	}
	if got, err := Depths(api.Code{}); len(got) > 0 || err != api.OK {
		t.Error(got, err)
	}
}

// P11.1: the first instruction that is found to be faulty.
func TestFaulty(t *testing.T) {
	for _, c := range []struct {
		at  int
		ins []api.Ins
	}{
		// The examples of the chapter.
		{2, []api.Ins{null, null, ret}}, {0, []api.Ins{null, jump(0)}},
		// Too few values for each operation that pops.
		{0, []api.Ins{pop, ret}}, {0, []api.Ins{ret}}, {0, []api.Ins{test, ret}}, {0, []api.Ins{dup, ret}}, {0, []api.Ins{falseTo(1), ret}}, {0, []api.Ins{with(api.OpStore, 0), ret}}, {0, []api.Ins{{Op: api.OpUnary, S: "-"}, ret}},
		{1, []api.Ins{null, plus, ret}}, {1, []api.Ins{null, index, ret}}, {0, []api.Ins{list(1), ret}}, {1, []api.Ins{null, list(2), ret}}, {1, []api.Ins{null, mapOf("a", "b"), ret}}, {0, []api.Ins{with(api.OpCall, 0), ret}}, {0, []api.Ins{{Op: api.OpBuilt, A: 1, S: "len"}, ret}}, {1, []api.Ins{null, {Op: api.OpBuilt, A: 2, S: "push"}, ret}}, {1, []api.Ins{null, {Op: api.OpHost, A: 2, S: "put"}, ret}}, {2, []api.Ins{null, null, {Op: api.OpHost, A: 3, S: "timer"}, ret}},
		// A return with none, and with several values.
		{2, []api.Ins{null, pop, ret}}, {3, []api.Ins{null, null, null, ret}},
		// A successor with another depth: the next one, and the one at which a jump continues.
		{2, []api.Ins{jump(2), null, null, falseTo(1), ret}}, {1, []api.Ins{null, falseTo(1), null, jump(0)}}, {3, []api.Ins{null, falseTo(3), null, jump(0)}}, {0, []api.Ins{null, falseTo(2), jump(3), null, jump(0)}}, {0, []api.Ins{null, null, falseTo(0), ret}}, {1, []api.Ins{null, falseTo(1), null, ret}},
		// Both successors of OpFalse have another depth: the next instruction is looked at first.
		{2, []api.Ins{jump(2), falseTo(0), null, null, jump(1)}}, {2, []api.Ins{jump(2), falseTo(3), null, null, null, jump(1)}},
		// The lowest instruction is followed first, also if it was found last: 1 is followed before 5, and 4 after 1.
		{1, []api.Ins{jump(3), pop, ret, null, falseTo(1), pop, ret}},
		{5, []api.Ins{jump(3), null, ret, null, falseTo(1), pop, ret}},
		{4, []api.Ins{null, falseTo(4), null, ret, pop, ret}}, {2, []api.Ins{null, falseTo(4), pop, ret, pop, ret}},
	} {
		i, err := Check(codeOf(c.ins...))
		if at, _, _ := wantedCheck(codeOf(c.ins...)); at != c.at && i == at {
			t.Errorf("%v: both are %d, not %d", c.ins, at, c.at)
		}
		if i != c.at || err != api.ErrStack {
			t.Errorf("%v: %d, %d, not %d", c.ins, i, err, c.at)
		}
		checkAll(t, codeOf(c.ins...))
	}
}

// P11.1, P11.2: the limit of the stack, for each operation that makes it higher.
func TestStackLimit(t *testing.T) {
	up := []api.Ins{null, with(api.OpBool, 0), with(api.OpInt, 5), str("s"), with(api.OpLoad, 1), dup, list(0), mapOf(), {Op: api.OpHost, S: "now"}}
	for _, in := range up {
		for n := 61; n <= 66; n++ {
			ins := slices.Concat([]api.Ins{null}, times(n-1, in), times(n-1, pop), []api.Ins{ret})
			at, want := 0, api.OK
			if n > mostStack {
				at, want = mostStack, api.ErrStack
			}
			expect(t, codeOf(ins...), at, want)
		}
	}
	full := times(64, null)
	down := slices.Concat(times(63, pop), []api.Ins{ret})
	for _, in := range []api.Ins{{Op: api.OpUnary, S: "-"}, test, with(api.OpCall, 0), {Op: api.OpBuilt, A: 1, S: "len"}, {Op: api.OpHost, A: 1, S: "log"}, list(1), mapOf("k"), jump(65)} {
		expect(t, codeOf(slices.Concat(full, []api.Ins{in}, down)...), 0, api.OK)
	}
	keys := make([]string, 64)
	for i := range keys {
		keys[i] = string([]byte{byte(33 + i)})
	}
	for _, in := range []api.Ins{list(64), mapOf(keys...)} {
		expect(t, codeOf(slices.Concat(full, []api.Ins{in, ret})...), 0, api.OK)
		expect(t, codeOf(slices.Concat(full[1:], []api.Ins{in, ret})...), 63, api.ErrStack)
	}
	// A call that pops nothing.
	c := codeOf(slices.Concat(times(63, null), []api.Ins{with(api.OpCall, 1)}, down)...)
	end := len(c.Ins)
	c.Funcs = append(c.Funcs, api.CodeFunc{Name: "f", Entry: end, End: end + 2})
	c.Ins = append(c.Ins, null, ret)
	expect(t, c, 0, api.OK)
	c.Ins[0] = jump(1)
	expect(t, c, end-1, api.ErrStack)
	c.Ins[0] = null
	c.Ins = slices.Insert(c.Ins, 0, null)
	c.Funcs[0].End++
	c.Funcs[1].Entry++
	c.Funcs[1].End++
	expect(t, c, 64, api.ErrStack)
}

// P11.1, P11.2: calls pop as many values as the function has parameters.
func TestCallDepth(t *testing.T) {
	for params := range 9 {
		for values := range 10 {
			ins := slices.Concat(times(values, null), []api.Ins{with(api.OpCall, 1), ret, null, ret})
			c := api.Code{Funcs: []api.CodeFunc{{Name: "main", Params: 1, Locals: 1, End: values + 2}, {Name: "f", Params: params, Locals: 9, Entry: values + 2, End: values + 4}}, Ins: ins}
			switch {
			case params > values:
				expect(t, c, values, api.ErrStack)
			case params == values:
				expect(t, c, 0, api.OK)
			default:
				expect(t, c, values+1, api.ErrStack)
			}
		}
	}
}

// P11.3: also the targets of instructions that are never reached.
func TestTargets(t *testing.T) {
	for _, c := range []struct {
		ins  []api.Ins
		want []int
	}{
		{[]api.Ins{null, ret}, nil},
		{[]api.Ins{jump(0)}, []int{0}},
		{[]api.Ins{null, falseTo(0), null, ret}, []int{0}},
		{[]api.Ins{null, ret, jump(5), falseTo(4), with(api.OpInt, 3), falseTo(1), jump(5), list(7), with(api.OpBool, 1), jump(0)}, []int{0, 1, 4, 5}},
		{[]api.Ins{null, falseTo(2), null, falseTo(2), null, falseTo(0), jump(6)}, []int{0, 2, 6}},
		{[]api.Ins{null, jump(0)}, nil}, {[]api.Ins{jump(0), null}, nil}, {[]api.Ins{jump(2)}, nil},
	} {
		if got := Targets(codeOf(c.ins...)); !slices.Equal(got, c.want) {
			t.Errorf("%v: %v, not %v", c.ins, got, c.want)
		}
		checkAll(t, codeOf(c.ins...))
	}
	if got := Targets(api.Code{}); len(got) > 0 {
		t.Error(got)
	}
}

// P11.1, P11.2, P11.3, P11.6: all codes of up to four instructions out of these, and of five out of fewer.
func TestSmallCodes(t *testing.T) {
	outcomes := map[api.Errno]int{}
	all := func(length int, alphabet []api.Ins) {
		ins := make([]api.Ins, length)
		var fill func(i int)
		fill = func(i int) {
			if i < length {
				for _, ins[i] = range alphabet {
					fill(i + 1)
				}
				return
			}
			c := codeOf(ins...)
			at, want, depths := wantedCheck(c)
			i, err := Check(c)
			got, _ := Depths(c)
			if i != at || err != want || !slices.Equal(got, depths) {
				t.Fatalf("%v: %d, %d, %v, not %d, %d, %v", ins, i, err, got, at, want, depths)
			}
			if err == api.OK {
				checkWays(t, c, depths)
			}
			outcomes[err]++
		}
		fill(0)
	}
	for n := range 5 {
		alphabet := []api.Ins{null, pop, ret, dup, plus}
		for i := range n {
			alphabet = append(alphabet, jump(i), falseTo(i))
		}
		all(n, alphabet)
	}
	five := []api.Ins{null, pop, ret}
	for i := range 5 {
		five = append(five, falseTo(i))
	}
	all(5, append(five, jump(0), jump(1), jump(2)))
	if outcomes[api.OK] < 1000 || outcomes[api.ErrStack] < 10000 || outcomes[api.ErrState] < 10000 {
		t.Error(outcomes)
	}
}
