package code

import (
	"math"
	"math/rand"
	"slices"
	"testing"

	"faas/api"
)

// writer writes random codes. It counts the values on the stack, so that most of them pass.
type writer struct {
	*rand.Rand
	funcs []api.CodeFunc
}

func (w *writer) word() string {
	return []string{"", "a", "b", "key", `"`, `\`, " ", "~!", "main"}[w.Intn(9)]
}

func (w *writer) keys(n int) []string {
	var l []string
	for range n {
		l = append(l, w.word())
	}
	slices.Sort(l)
	return slices.Compact(l)
}

// instruction returns a random one that does not jump, and can be where there are depth values.
func (w *writer) instruction(c api.Code, f api.CodeFunc, depth int) api.Ins {
	for {
		in := api.Ins{Op: api.Op(1 + w.Intn(19))}
		switch in.Op {
		case api.OpBool:
			in.A = w.Intn(2)
		case api.OpInt:
			in.A = w.Intn(100) - 50
		case api.OpStr:
			in.S = w.word()
		case api.OpLoad, api.OpStore:
			if f.Locals == 0 {
				continue
			}
			in.A = w.Intn(f.Locals)
		case api.OpUnary:
			in.S = unaries[w.Intn(2)]
		case api.OpBinary:
			in.S = binaries[w.Intn(len(binaries))]
		case api.OpList:
			in.A = w.Intn(depth + 1)
		case api.OpMap:
			in.Keys = w.keys(w.Intn(4))
			in.A = len(in.Keys)
		case api.OpJump, api.OpFalse:
			continue
		case api.OpCall:
			in.A = w.Intn(len(c.Funcs))
		case api.OpBuilt:
			in.S = []string{"len", "push", "put", "has", "fail"}[w.Intn(5)]
			in.A = builtins[in.S]
		case api.OpHost:
			in.S = []string{"get", "put", "timer", "now"}[w.Intn(4)]
			in.A = hostOps[in.S]
		}
		if pops, pushes := effect(c, in); pops <= depth && depth-pops+pushes <= mostStack {
			return in
		}
	}
}

// function writes the instructions of the function f, at most size and some more.
func (w *writer) function(c *api.Code, f *api.CodeFunc, size int) {
	f.Entry = len(c.Ins)
	var depths []int // as the ways should have them
	depth := 0
	add := func(in api.Ins, behind int) {
		c.Ins = append(c.Ins, in)
		depths = append(depths, depth)
		depth = behind
	}
	for range size {
		switch n := w.Intn(12); {
		case n == 0 && depth > 0:
			add(with(api.OpFalse, depth-1), depth-1)
		case n == 1 && len(depths) > 0:
			add(with(api.OpJump, depth), depths[w.Intn(len(depths))])
		case n == 2 && depth == 1:
			add(ret, depths[w.Intn(len(depths))])
		default:
			in := w.instruction(*c, *f, depth)
			pops, pushes := effect(*c, in)
			add(in, depth-pops+pushes)
		}
	}
	for depth > 1 {
		add(pop, depth-1)
	}
	if depth == 0 {
		add(null, 1)
	}
	add(ret, 0)
	f.End = len(c.Ins)
	w.aim(c.Ins[f.Entry:], f.Entry, depths)
}

// aim gives the jumps among the instructions targets with the depth that they have as their operand so far.
func (w *writer) aim(ins []api.Ins, entry int, depths []int) {
	for i := range ins {
		if ins[i].Op != api.OpJump && ins[i].Op != api.OpFalse {
			continue
		}
		var fitting []int
		for k, depth := range depths {
			if depth == ins[i].A {
				fitting = append(fitting, entry+k)
			}
		}
		ins[i].A = entry + w.Intn(len(ins))
		if len(fitting) > 0 {
			ins[i].A = fitting[w.Intn(len(fitting))]
		}
	}
}

func (w *writer) code(size int) api.Code {
	var c api.Code
	for i := range 1 + w.Intn(3) {
		params := w.Intn(4)
		c.Funcs = append(c.Funcs, api.CodeFunc{Name: []string{"main", "f0", "g_"}[i], Params: params, Locals: params + w.Intn(3)})
	}
	for i := range c.Funcs {
		w.function(&c, &c.Funcs[i], w.Intn(size))
	}
	return c
}

// spoil changes c in one place.
func (w *writer) spoil(c *api.Code) {
	if w.Intn(4) == 0 {
		w.spoilFunction(&c.Funcs[w.Intn(len(c.Funcs))])
		return
	}
	i := w.Intn(len(c.Ins))
	in := &c.Ins[i]
	switch w.Intn(8) {
	case 0:
		in.Op = api.Op(w.Intn(22))
	case 1, 2:
		in.A += w.Intn(5) - 2
	case 3:
		in.A = []int{-1, 0, 1, 64, 65, greatest + 1, math.MinInt, math.MaxInt}[w.Intn(8)]
	case 4:
		in.S = []string{"", "-", "not", "+", "and", "len", "get", "x"}[w.Intn(8)]
	case 5:
		in.Keys = [][]string{nil, {"a"}, {"a", "a"}, {"b", "a"}, {"é"}}[w.Intn(5)]
	case 6:
		c.Ins = slices.Delete(c.Ins, i, i+1)
	case 7:
		k := w.Intn(len(c.Ins))
		c.Ins[i], c.Ins[k] = c.Ins[k], c.Ins[i]
	}
}

func (w *writer) spoilFunction(f *api.CodeFunc) {
	by := w.Intn(3) - 1
	switch w.Intn(5) {
	case 0:
		f.Name = []string{"main", "f0", "", "A", "if"}[w.Intn(5)]
	case 1:
		f.Params += by
	case 2:
		f.Locals += by
	case 3:
		f.Entry += by
	case 4:
		f.End += by
	}
}

// P11.1 to P11.7: random codes, right and wrong ones.
func TestRandom(t *testing.T) {
	w := &writer{Rand: rand.New(rand.NewSource(111))}
	outcomes := map[api.Errno]int{}
	for i := range 20000 {
		c := w.code([]int{4, 12, 40}[i%3])
		for range i % 4 {
			if len(c.Ins) > 0 {
				w.spoil(&c)
			}
		}
		outcomes[checkAll(t, c)]++
	}
	for err, least := range map[api.Errno]int{api.OK: 5000, api.ErrSyntax: 2000, api.ErrStack: 300, api.ErrOrder: 1000, api.ErrName: 300, api.ErrRange: 200, api.ErrState: 50} {
		if outcomes[err] < least {
			t.Error(outcomes)
		}
	}
}

// P11.1, P11.2, P11.6: long functions in which ways go back and forth.
func TestRandomLong(t *testing.T) {
	w := &writer{Rand: rand.New(rand.NewSource(112))}
	outcomes := map[api.Errno]int{}
	for range 300 {
		outcomes[checkAll(t, w.code(600))]++
	}
	if outcomes[api.OK] < 30 {
		t.Error(outcomes)
	}
	// Each jump of the one half goes to the other half, so that the lowest instruction changes all the time.
	var ins []api.Ins
	for i := range mostCode / 2 {
		ins = append(ins, jump(mostCode/2+i))
	}
	for i := range mostCode / 2 {
		ins = append(ins, jump((i+1)%(mostCode/2)))
	}
	checkAll(t, codeOf(ins...))
}
