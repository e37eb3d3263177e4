package code

import (
	"faas/api"
	"faas/lex"
)

const (
	// unknown is the depth of an instruction that no way has come to.
	unknown = -1
	// nowhere is the place of a fault if there is none.
	nowhere = -1
)

// checkFuncs returns the index of the first function of c with an error, and this error.
func checkFuncs(c api.Code) (int, api.Errno) {
	end := 0
	for i, f := range c.Funcs {
		if !isName(f.Name) || Find(c, f.Name) < i {
			return i, api.ErrName
		}
		if f.Params < 0 || f.Params > api.MaxParams || f.Locals < f.Params || f.Locals > api.MaxLocals {
			return i, api.ErrRange
		}
		if f.Entry != end || f.End <= f.Entry || f.End > len(c.Ins) {
			return i, api.ErrOrder
		}
		end = f.End
	}
	if end != len(c.Ins) {
		return len(c.Funcs), api.ErrOrder
	}
	return 0, api.OK
}

// isName reports whether s is a NAME token.
func isName(s string) bool {
	_, err := lex.Text(api.Token{Kind: api.TkName, Text: s})
	return err == api.OK
}

// checkInstructions returns the index of the first instruction of c with an error, and this error. The functions of c have none.
func checkInstructions(c api.Code) (int, api.Errno) {
	for _, f := range c.Funcs {
		for i := f.Entry; i < f.End; i++ {
			in := c.Ins[i]
			if !isWellFormed(c, f, in) {
				return i, api.ErrSyntax
			}
			if i == f.End-1 && in.Op != api.OpReturn && in.Op != api.OpJump {
				return i, api.ErrState
			}
		}
	}
	return 0, api.OK
}

// fillDepths enters the depths of the instructions of f into depths. It returns the first one that is found to be faulty, or nowhere.
func fillDepths(c api.Code, f api.CodeFunc, depths []int) int {
	followed := make([]bool, f.End)
	depths[f.Entry] = 0
	// No instruction before i has a known depth and waits to be followed.
	for i := f.Entry; i < f.End; {
		next := i + 1
		if depths[i] != unknown && !followed[i] {
			followed[i] = true
			behind, ok := depthBehind(c, c.Ins[i], depths[i])
			if !ok {
				return i
			}
			for _, s := range successors(c.Ins[i], i) {
				if depths[s] == unknown {
					depths[s] = behind
					next = min(next, s)
				}
				if depths[s] != behind {
					return s
				}
			}
		}
		i = next
	}
	return nowhere
}

// depthBehind returns the depth behind the instruction in, and whether in is right at the depth before it.
func depthBehind(c api.Code, in api.Ins, depth int) (int, bool) {
	pops := popped(c, in)
	behind := depth - pops + int(shapes[in.Op].pushes)
	if pops > depth || behind > api.MaxStack {
		return 0, false
	}
	return behind, in.Op != api.OpReturn || depth == 1
}

// popped returns the number of values that the instruction in pops.
func popped(c api.Code, in api.Ins) int {
	switch pops := shapes[in.Op].pops; pops {
	case popsA:
		return in.A
	case popsParams:
		return c.Funcs[in.A].Params
	default:
		return int(pops)
	}
}

// successors returns the successors of the instruction in, whose index is i.
func successors(in api.Ins, i int) []int {
	switch in.Op {
	case api.OpJump:
		return []int{in.A}
	case api.OpReturn:
		return nil
	case api.OpFalse:
		return []int{i + 1, in.A}
	}
	return []int{i + 1}
}
