package machine

import (
	"slices"

	"faas/api"
	"faas/value"
)

// runner executes the instructions of a code on a machine of its own, which it changes in place. No two values of the machine share memory.
type runner struct {
	code    api.Code
	machine api.Machine
	// operations are the functions that execute an instruction with the values that it popped, by its operation.
	operations [api.OpReturn + 1]func(r *runner, in api.Ins, v [][]api.Cell) api.Errno
}

func newRunner(c api.Code, m api.Machine) *runner {
	return &runner{code: c, machine: copyMachine(m), operations: operations()}
}

// step executes the next instruction, unless the limit of steps is reached.
func (r *runner) step() {
	if r.machine.Steps == r.machine.Limits.Steps {
		r.fail(api.ErrSteps)
		return
	}
	in, ok := r.next()
	if !ok {
		r.fail(api.ErrCorrupt)
		return
	}
	r.machine.Steps++
	r.frame().Pc++
	v := r.pop(r.popped(in))
	if err := r.operations[in.Op](r, in, v); err != api.OK {
		r.fail(err)
		return
	}
	// It makes no difference to a machine that is done, as that has no memory.
	r.measure()
}

// next returns the next instruction, and whether it can be executed. It always can if the machine is one for the code.
func (r *runner) next() (api.Ins, bool) {
	if len(r.machine.Frames) == 0 {
		return api.Ins{}, false
	}
	f := r.frame()
	if !isIndex(f.Pc, len(r.code.Ins)) {
		return api.Ins{}, false
	}
	in := r.code.Ins[f.Pc]
	return in, r.canExecute(in, f)
}

// canExecute reports whether all that the instruction in uses is there.
func (r *runner) canExecute(in api.Ins, f *api.Frame) bool {
	switch in.Op {
	case api.OpLoad, api.OpStore:
		if !isIndex(in.A, len(f.Locals)) {
			return false
		}
	case api.OpCall:
		if !isIndex(in.A, len(r.code.Funcs)) || r.code.Funcs[in.A].Locals > api.MaxLocals {
			return false
		}
	}
	pops := r.popped(in)
	return in.Op > api.NoOp && in.Op <= api.OpReturn && pops >= 0 && pops <= len(f.Stack)
}

func isIndex(i, n int) bool {
	return i >= 0 && i < n
}

// popped returns the number of values that the instruction in pops.
func (r *runner) popped(in api.Ins) int {
	switch in.Op {
	case api.OpStore, api.OpPop, api.OpUnary, api.OpFalse, api.OpTest, api.OpDup, api.OpReturn:
		return 1
	case api.OpBinary, api.OpIndex:
		return 2
	case api.OpList, api.OpMap, api.OpBuilt, api.OpHost:
		return in.A
	case api.OpCall:
		return r.code.Funcs[in.A].Params
	}
	return 0
}

// frame returns the last frame.
func (r *runner) frame() *api.Frame {
	return &r.machine.Frames[len(r.machine.Frames)-1]
}

// pop removes the last n values from the stack, and returns them in their order.
func (r *runner) pop(n int) [][]api.Cell {
	f := r.frame()
	left := len(f.Stack) - n
	// The next values that are pushed take the places of these.
	v := slices.Clone(f.Stack[left:])
	f.Stack = f.Stack[:left]
	return v
}

func (r *runner) push(v []api.Cell) {
	f := r.frame()
	f.Stack = append(f.Stack, v)
}

// yield pushes what a function on values returned, or returns its error.
func (r *runner) yield(v []api.Cell, err api.Errno) api.Errno {
	if err == api.OK {
		r.push(v)
	}
	return err
}

// enter adds a frame of the function f with these arguments.
func (r *runner) enter(f int, args [][]api.Cell) {
	function := r.code.Funcs[f]
	locals := args
	for len(locals) < function.Locals {
		locals = append(locals, value.Null())
	}
	r.machine.Frames = append(r.machine.Frames, api.Frame{Func: f, Pc: function.Entry, Locals: locals})
}

// accept goes on with an answer.
func (r *runner) accept(a api.Answer) {
	switch {
	case a.Err != api.OK:
		r.fail(a.Err)
	case value.Check(a.Value) != api.OK || len(r.machine.Frames) == 0:
		r.fail(api.ErrCorrupt)
	default:
		r.machine.Status = api.StRunning
		r.push(slices.Clone(a.Value))
		r.measure()
	}
}

// measure raises the peak to the memory, and fails if there is too much of it.
func (r *runner) measure() {
	memory := Memory(r.machine)
	r.machine.Peak = max(r.machine.Peak, memory)
	// The limit of a machine that Start has not made may be greater than the greatest one.
	if memory > min(r.machine.Limits.Memory, api.MaxMemory) {
		r.fail(api.ErrMemory)
	}
}

func (r *runner) fail(err api.Errno) {
	r.machine.Status = api.StFailed
	r.machine.Err = err
	r.machine.Frames = nil
}
