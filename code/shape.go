package code

import (
	"faas/api"
	"faas/num"
	"faas/static"
	"faas/value"
)

// operand is what the operand A or S of an operation has to be.
type operand uint8

const (
	none     operand = iota // A is 0, or S is empty
	truth                   // A is 0 or 1
	integer                 // A is a valid integer
	variable                // A is a variable of the function
	size                    // A is a number of values on the stack
	target                  // A is an instruction of the function
	callee                  // A is a function
	count                   // A is the number of arguments of S
	literal                 // S is a valid string
	sign                    // S is an operator with one operand
	operator                // S is an operator with two operands
	builtin                 // S is a built-in function
	hostOp                  // S is a host operation
)

// The numbers of popped values that depend on the operand A.
const (
	popsA      = -1 // as many as A
	popsParams = -2 // as many as the parameters of the function A
)

// shape describes an operation: its name in the lines of Format, its operands, and its effect on the stack.
type shape struct {
	name   string
	number operand
	text   operand
	pops   int8
	pushes int8
}

var shapes = [...]shape{
	api.OpNull:   {"null", none, none, 0, 1},
	api.OpBool:   {"bool", truth, none, 0, 1},
	api.OpInt:    {"int", integer, none, 0, 1},
	api.OpStr:    {"str", none, literal, 0, 1},
	api.OpLoad:   {"load", variable, none, 0, 1},
	api.OpStore:  {"store", variable, none, 1, 0},
	api.OpPop:    {"pop", none, none, 1, 0},
	api.OpUnary:  {"unary", none, sign, 1, 1},
	api.OpBinary: {"binary", none, operator, 2, 1},
	api.OpIndex:  {"index", none, none, 2, 1},
	api.OpList:   {"list", size, none, popsA, 1},
	api.OpMap:    {"map", size, none, popsA, 1},
	api.OpJump:   {"jump", target, none, 0, 0},
	api.OpFalse:  {"false", target, none, 1, 0},
	api.OpTest:   {"test", none, none, 1, 1},
	api.OpDup:    {"dup", none, none, 1, 2},
	api.OpCall:   {"call", callee, none, popsParams, 1},
	api.OpBuilt:  {"built", count, builtin, popsA, 1},
	api.OpHost:   {"host", count, hostOp, popsA, 1},
	api.OpReturn: {"return", none, none, 1, 0},
}

// isWellFormed reports whether in is a well-formed instruction of the function f of c.
func isWellFormed(c api.Code, f api.CodeFunc, in api.Ins) bool {
	if in.Op <= api.NoOp || in.Op > api.OpReturn {
		return false
	}
	return hasNumber(c, f, in) && hasText(in) && hasKeys(in)
}

// hasNumber reports whether the operand A of in is what its operation asks for.
func hasNumber(c api.Code, f api.CodeFunc, in api.Ins) bool {
	switch shapes[in.Op].number {
	case truth:
		return in.A == 0 || in.A == 1
	case integer:
		return num.Valid(in.A)
	case variable:
		return 0 <= in.A && in.A < f.Locals
	case size:
		return 0 <= in.A && in.A <= api.MaxStack
	case target:
		return f.Entry <= in.A && in.A < f.End
	case callee:
		return 0 <= in.A && in.A < len(c.Funcs)
	case count:
		// It is compared where S is looked up.
		return true
	}
	return in.A == 0
}

// hasText reports whether the operand S of in is what its operation asks for.
func hasText(in api.Ins) bool {
	switch shapes[in.Op].text {
	case literal:
		return isString(in.S)
	case sign:
		return in.S == "-" || in.S == "not"
	case operator:
		return isBinary(in.S)
	case builtin:
		arguments, known := static.Builtin(in.S)
		return known && arguments == in.A
	case hostOp:
		arguments, known := static.HostOp(in.S)
		return known && arguments == in.A
	}
	return in.S == ""
}

func isBinary(s string) bool {
	switch s {
	case "+", "-", "*", "/", "%", "==", "!=", "<", "<=", ">", ">=":
		return true
	}
	return false
}

// isString reports whether s is a valid string of a value.
func isString(s string) bool {
	_, err := value.Str(s)
	return err == api.OK
}

// hasKeys reports whether in has the keys of a map if it makes one, and otherwise none.
func hasKeys(in api.Ins) bool {
	if in.Op != api.OpMap {
		return len(in.Keys) == 0
	}
	for i, key := range in.Keys {
		if !isString(key) || i > 0 && key <= in.Keys[i-1] {
			return false
		}
	}
	return len(in.Keys) == in.A
}
