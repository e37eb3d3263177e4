package machine

import (
	"slices"

	"faas/api"
	"faas/eval"
	"faas/value"
)

// operations returns the functions of the operations.
func operations() [api.OpReturn + 1]func(*runner, api.Ins, [][]api.Cell) api.Errno {
	return [...]func(*runner, api.Ins, [][]api.Cell) api.Errno{
		api.OpNull:   (*runner).constant,
		api.OpBool:   (*runner).constant,
		api.OpInt:    (*runner).constant,
		api.OpStr:    (*runner).constant,
		api.OpLoad:   (*runner).load,
		api.OpStore:  (*runner).store,
		api.OpPop:    (*runner).drop,
		api.OpUnary:  (*runner).unary,
		api.OpBinary: (*runner).binary,
		api.OpIndex:  (*runner).index,
		api.OpList:   (*runner).list,
		api.OpMap:    (*runner).mapOf,
		api.OpJump:   (*runner).jump,
		api.OpFalse:  (*runner).branch,
		api.OpTest:   (*runner).test,
		api.OpDup:    (*runner).double,
		api.OpCall:   (*runner).call,
		api.OpBuilt:  (*runner).builtin,
		api.OpHost:   (*runner).request,
		api.OpReturn: (*runner).leave,
	}
}

func (r *runner) constant(in api.Ins, _ [][]api.Cell) api.Errno {
	switch in.Op {
	case api.OpBool:
		return r.yield(value.Bool(in.A == 1), api.OK)
	case api.OpInt:
		return r.yield(value.Int(in.A))
	case api.OpStr:
		return r.yield(value.Str(in.S))
	}
	return r.yield(value.Null(), api.OK)
}

func (r *runner) load(in api.Ins, _ [][]api.Cell) api.Errno {
	r.push(slices.Clone(r.frame().Locals[in.A]))
	return api.OK
}

func (r *runner) store(in api.Ins, v [][]api.Cell) api.Errno {
	r.frame().Locals[in.A] = v[0]
	return api.OK
}

func (r *runner) drop(_ api.Ins, _ [][]api.Cell) api.Errno {
	return api.OK
}

func (r *runner) unary(in api.Ins, v [][]api.Cell) api.Errno {
	return r.yield(eval.Unary(in.S, v[0]))
}

func (r *runner) binary(in api.Ins, v [][]api.Cell) api.Errno {
	return r.yield(eval.Binary(in.S, v[0], v[1]))
}

func (r *runner) index(_ api.Ins, v [][]api.Cell) api.Errno {
	return r.yield(eval.Index(v[0], v[1]))
}

func (r *runner) list(_ api.Ins, v [][]api.Cell) api.Errno {
	return r.yield(value.List(v))
}

func (r *runner) mapOf(in api.Ins, v [][]api.Cell) api.Errno {
	return r.yield(value.Map(in.Keys, v))
}

func (r *runner) jump(in api.Ins, _ [][]api.Cell) api.Errno {
	r.frame().Pc = in.A
	return api.OK
}

func (r *runner) branch(in api.Ins, v [][]api.Cell) api.Errno {
	if !isBool(v[0]) {
		return api.ErrType
	}
	if v[0][0].Int == 0 {
		r.frame().Pc = in.A
	}
	return api.OK
}

func (r *runner) test(_ api.Ins, v [][]api.Cell) api.Errno {
	if !isBool(v[0]) {
		return api.ErrType
	}
	r.push(v[0])
	return api.OK
}

func isBool(v []api.Cell) bool {
	return len(v) == 1 && v[0].Kind == api.Bool
}

func (r *runner) double(_ api.Ins, v [][]api.Cell) api.Errno {
	r.push(v[0])
	r.push(slices.Clone(v[0]))
	return api.OK
}

func (r *runner) call(in api.Ins, v [][]api.Cell) api.Errno {
	if len(r.machine.Frames) >= api.MaxCalls {
		return api.ErrStack
	}
	r.enter(in.A, v)
	return api.OK
}

func (r *runner) builtin(in api.Ins, v [][]api.Cell) api.Errno {
	return r.yield(eval.Builtin(in.S, v))
}

// request asks for a host operation, and waits for its answer.
func (r *runner) request(in api.Ins, v [][]api.Cell) api.Errno {
	if len(r.machine.Requests) >= api.MaxRequests {
		return api.ErrLimit
	}
	r.machine.Requests = append(r.machine.Requests, api.Request{Op: in.S, Args: v})
	r.machine.Status = api.StWaiting
	return api.OK
}

// leave ends a call, and with that of main the machine is done.
func (r *runner) leave(_ api.Ins, v [][]api.Cell) api.Errno {
	last := len(r.machine.Frames) - 1
	if last == 0 {
		r.machine.Status = api.StDone
		r.machine.Value = v[0]
		r.machine.Frames = nil
		return api.OK
	}
	r.machine.Frames = r.machine.Frames[:last]
	r.push(v[0])
	return api.OK
}
