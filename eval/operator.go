package eval

import (
	"slices"

	"faas/api"
	"faas/num"
	"faas/value"
)

// operandKind returns the kind of the operand of an operator with one operand, and NoKind if there is no such operator.
func operandKind(op string) api.Kind {
	switch op {
	case "-":
		return api.Int
	case "not":
		return api.Bool
	}
	return api.NoKind
}

func isBinary(op string) bool {
	switch op {
	case "+", "-", "*", "/", "%", "==", "!=", "<", "<=", ">", ">=":
		return true
	}
	return false
}

// compare returns the result of an operator of order.
func compare(op string, a, b []api.Cell) ([]api.Cell, api.Errno) {
	if !areBoth(api.Int, a, b) && !areBoth(api.Str, a, b) {
		return nil, api.ErrType
	}
	order := value.Cmp(a, b)
	switch op {
	case "<":
		return value.Bool(order < 0), api.OK
	case "<=":
		return value.Bool(order <= 0), api.OK
	case ">":
		return value.Bool(order > 0), api.OK
	}
	return value.Bool(order >= 0), api.OK
}

// compute returns the result of an operator of arithmetic.
func compute(op string, a, b int) ([]api.Cell, api.Errno) {
	n, err := arithmetic(op, a, b)
	if err != api.OK {
		return nil, err
	}
	return value.Int(n)
}

func arithmetic(op string, a, b int) (int, api.Errno) {
	switch op {
	case "+":
		return num.Add(a, b)
	case "-":
		return num.Sub(a, b)
	case "*":
		return num.Mul(a, b)
	}
	quotient, rest, err := num.DivMod(a, b)
	if op == "/" {
		return quotient, err
	}
	return rest, err
}

// list returns the list of n elements that have these cells. It is put together from cells, as lists grow in loops.
func list(n int, elements ...[]api.Cell) ([]api.Cell, api.Errno) {
	v := []api.Cell{{Kind: api.List, N: n}}
	v = append(v, slices.Concat(elements...)...)
	if err := value.Check(v); err != api.OK {
		return nil, err
	}
	return v, api.OK
}

// element returns the element of a list at the place i.
func element(v []api.Cell, i int) ([]api.Cell, api.Errno) {
	items, err := value.Items(v)
	if err != api.OK {
		return nil, err
	}
	if i < 0 || i >= len(items) {
		return nil, api.ErrRange
	}
	return items[i], api.OK
}

// lookUp returns the value of a key of a map, or null.
func lookUp(v []api.Cell, key string) ([]api.Cell, api.Errno) {
	found, err := value.Get(v, key)
	if err == api.ErrNone {
		return value.Null(), api.OK
	}
	return found, err
}
