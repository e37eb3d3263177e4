package eval

import (
	"cmp"
	"encoding/json"
	"fmt"
	"maps"
	"math/big"
	"regexp"
	"slices"
	"strconv"
	"strings"
	"testing"

	"faas/api"
	"faas/value"
)

// The limits of the chapter and of DOC.md.
const (
	mostStr, mostCells, mostDepth, mostText = 200, 200, 8, 4000
	mostCalls, mostRequests, mostFuel       = 16, 32, 200000
)

// cells returns the value with the text s.
func cells(t *testing.T, s string) []api.Cell {
	t.Helper()
	v, err := value.Decode(s)
	if err != api.OK {
		t.Fatalf("%s: %d", s, err)
	}
	return v
}

// shown returns the text of a value, or what is wrong with it.
func shown(v []api.Cell) string {
	s, err := value.Encode(v)
	if err != api.OK {
		return fmt.Sprint("error ", err)
	}
	return s
}

// native turns a valid value into nil, a bool, an int64, a string, []any or map[string]any.
func native(v []api.Cell) any {
	d := json.NewDecoder(strings.NewReader(shown(v)))
	d.UseNumber()
	var x any
	if err := d.Decode(&x); err != nil {
		panic(err)
	}
	return numbered(x)
}

func numbered(x any) any {
	switch x := x.(type) {
	case json.Number:
		n, err := x.Int64()
		if err != nil {
			panic(err)
		}
		return n
	case []any:
		for i := range x {
			x[i] = numbered(x[i])
		}
	case map[string]any:
		for k := range x {
			x[k] = numbered(x[k])
		}
	}
	return x
}

// written returns the text of a native value.
func written(x any) string {
	switch x := x.(type) {
	case string:
		return `"` + strings.NewReplacer(`\`, `\\`, `"`, `\"`).Replace(x) + `"`
	case []any:
		var l []string
		for _, e := range x {
			l = append(l, written(e))
		}
		return "[" + strings.Join(l, ",") + "]"
	case map[string]any:
		var l []string
		for _, k := range slices.Sorted(maps.Keys(x)) {
			l = append(l, written(k)+":"+written(x[k]))
		}
		return "{" + strings.Join(l, ",") + "}"
	case nil:
		return "null"
	}
	return fmt.Sprint(x)
}

// size returns the cells and the levels of a native value, and the bytes of its longest string or key.
func size(x any) (count, levels, longest int) {
	var parts []any
	switch x := x.(type) {
	case string:
		return 1, 1, len(x)
	case []any:
		parts = x
	case map[string]any:
		for k, e := range x {
			parts = append(parts, e)
			count++
			longest = max(longest, len(k))
		}
	}
	for _, e := range parts {
		c, l, s := size(e)
		count, levels, longest = count+c, max(levels, l), max(longest, s)
	}
	return count + 1, levels + 1, longest
}

// trouble is an error of the model, which it panics with.
type trouble api.Errno

// waiting, and finished with a value, are the other ways in which a part of the model ends early.
type (
	waiting  struct{}
	finished struct{ value any }
)

func must(ok bool, err api.Errno) {
	if !ok {
		panic(trouble(err))
	}
}

func as[T any](x any) T {
	v, ok := x.(T)
	must(ok, api.ErrType)
	return v
}

// bounded returns x, which must be within the limits of values.
func bounded(x any) any {
	count, levels, longest := size(x)
	must(count <= mostCells && levels <= mostDepth && longest <= mostStr && len(written(x)) <= mostText, api.ErrLimit)
	return x
}

func fits(n *big.Int) any {
	must(n.CmpAbs(big.NewInt(api.MaxInt)) <= 0, api.ErrOverflow)
	return n.Int64()
}

func modelUnary(op string, x any) any {
	if op == "not" {
		return !as[bool](x)
	}
	return -as[int64](x)
}

func modelBinary(op string, a, b any) any {
	switch op {
	case "==":
		return written(a) == written(b)
	case "!=":
		return written(a) != written(b)
	case "<", "<=", ">", ">=":
		var order int
		if s, ok := a.(string); ok {
			order = strings.Compare(s, as[string](b))
		} else {
			order = cmp.Compare(as[int64](a), as[int64](b))
		}
		return order == 0 && len(op) == 2 || order < 0 && op[0] == '<' || order > 0 && op[0] == '>'
	}
	if s, ok := a.(string); ok && op == "+" {
		return bounded(s + as[string](b))
	}
	if l, ok := a.([]any); ok && op == "+" {
		return bounded(slices.Concat(l, as[[]any](b)))
	}
	m, n := big.NewInt(as[int64](a)), big.NewInt(as[int64](b))
	switch op {
	case "+":
		return fits(m.Add(m, n))
	case "-":
		return fits(m.Sub(m, n))
	case "*":
		return fits(m.Mul(m, n))
	}
	must(n.Sign() != 0, api.ErrDivide)
	quotient, rest := new(big.Int).QuoRem(m, n, new(big.Int)) // rounded towards zero
	if rest.Sign()*n.Sign() < 0 {
		quotient.Sub(quotient, big.NewInt(1))
		rest.Add(rest, n)
	}
	if op == "/" {
		return quotient.Int64()
	}
	return rest.Int64()
}

func modelIndex(x, i any) any {
	if l, ok := x.([]any); ok {
		n := as[int64](i)
		must(0 <= n && n < int64(len(l)), api.ErrRange)
		return l[n]
	}
	return as[map[string]any](x)[as[string](i)]
}

var decimal = regexp.MustCompile(`^(0|-?[1-9][0-9]*)$`)

func modelBuiltin(name string, args []any) any {
	switch x := args[0].(type) {
	case string:
		switch name {
		case "len":
			return int64(len(x))
		case "str":
			return x
		case "int":
			if n, err := strconv.ParseInt(x, 10, 64); decimal.MatchString(x) && err == nil && max(n, -n) <= api.MaxInt {
				return n
			}
			return nil
		}
	case int64:
		if name == "int" {
			return x
		}
	case []any:
		switch name {
		case "len":
			return int64(len(x))
		case "push":
			return bounded(slices.Concat(x, []any{args[1]}))
		}
	case map[string]any:
		switch name {
		case "len":
			return int64(len(x))
		case "has":
			_, ok := x[as[string](args[1])]
			return ok
		case "put":
			m := maps.Clone(x)
			m[as[string](args[1])] = args[2]
			return bounded(m)
		case "keys":
			l := []any{}
			for _, k := range slices.Sorted(maps.Keys(x)) {
				l = append(l, k)
			}
			return l
		}
	}
	if name == "str" {
		return bounded(written(args[0]))
	}
	must(name != "fail", api.ErrFailed)
	panic(trouble(api.ErrType))
}

// attempt returns the text of what f returns, or the error that it panics with.
func attempt(f func() any) (s string, err api.Errno) {
	defer func() {
		if x := recover(); x != nil {
			s, err = "", api.Errno(x.(trouble))
		}
	}()
	return written(f()), api.OK
}

// model evaluates a program with native values, with a list of scopes for each call.
type model struct {
	api.Program
	answers  []api.Answer
	fuel     int
	calls    int
	scopes   []map[string]any
	requests []string
}

func (m *model) call(f api.Func, args []any) (x any) {
	must(m.calls < mostCalls, api.ErrStack)
	outer := m.scopes
	params := map[string]any{}
	for i, name := range f.Params {
		params[name] = args[i]
	}
	m.calls++
	m.scopes = []map[string]any{params}
	defer func() {
		m.calls--
		m.scopes = outer
		e := recover()
		if f, ok := e.(finished); ok {
			x = f.value
		} else if e != nil {
			panic(e)
		}
	}()
	m.node(f.Body)
	return nil
}

// scope returns the scope that has the variable.
func (m *model) scope(name string) map[string]any {
	for _, s := range m.scopes {
		if _, ok := s[name]; ok {
			return s
		}
	}
	panic("no variable " + name)
}

func (m *model) node(i int) any {
	must(m.fuel > 0, api.ErrSteps)
	m.fuel--
	n := m.Nodes[i]
	kid := func(i int) any { return m.node(n.Kids[i]) }
	kids := func() []any {
		l := []any{}
		for i := range n.Kids {
			l = append(l, kid(i))
		}
		return l
	}
	switch n.Kind {
	case api.NdNull:
		return nil
	case api.NdBool:
		return n.Int == 1
	case api.NdInt:
		return int64(n.Int)
	case api.NdStr:
		return n.Text
	case api.NdVar:
		return m.scope(n.Text)[n.Text]
	case api.NdList:
		return bounded(kids())
	case api.NdMap:
		x := map[string]any{}
		for i, e := range kids() {
			x[n.Keys[i]] = e
		}
		return bounded(x)
	case api.NdUnary:
		return modelUnary(n.Text, kid(0))
	case api.NdBinary:
		if n.Text == "and" {
			return as[bool](kid(0)) && as[bool](kid(1))
		}
		if n.Text == "or" {
			return as[bool](kid(0)) || as[bool](kid(1))
		}
		return modelBinary(n.Text, kid(0), kid(1))
	case api.NdIndex:
		return modelIndex(kid(0), kid(1))
	case api.NdCall:
		args := kids()
		for _, f := range m.Funcs {
			if f.Name == n.Text {
				return m.call(f, args)
			}
		}
		return modelBuiltin(n.Text, args)
	case api.NdHost:
		return m.request(n.Text, kids())
	}
	m.statement(n, kid)
	return nil
}

func (m *model) statement(n api.Node, kid func(int) any) {
	switch n.Kind {
	case api.NdLet:
		x := kid(0)
		m.scopes[len(m.scopes)-1][n.Text] = x
	case api.NdSet:
		x := kid(0)
		m.scope(n.Text)[n.Text] = x
	case api.NdDo:
		kid(0)
	case api.NdReturn:
		panic(finished{kid(0)})
	case api.NdIf:
		if as[bool](kid(0)) {
			kid(1)
		} else if len(n.Kids) == 3 {
			kid(2)
		}
	case api.NdWhile:
		for as[bool](kid(0)) {
			kid(1)
		}
	case api.NdBlock:
		m.scopes = append(m.scopes, map[string]any{})
		for i := range n.Kids {
			kid(i)
		}
		m.scopes = m.scopes[:len(m.scopes)-1]
	}
}

func (m *model) request(op string, args []any) any {
	must(len(m.requests) < mostRequests, api.ErrLimit)
	k := len(m.requests)
	m.requests = append(m.requests, op+written(args))
	if k >= len(m.answers) {
		panic(waiting{})
	}
	a := m.answers[k]
	must(a.Err == api.OK, a.Err)
	must(value.Check(a.Value) == api.OK, api.ErrCorrupt)
	return native(a.Value)
}

// modelRun returns the outcome as a text.
func modelRun(p api.Program, event []api.Cell, answers []api.Answer, fuel int) (s string) {
	m := &model{Program: p, answers: answers, fuel: fuel}
	defer func() {
		switch x := recover().(type) {
		case trouble:
			s = fmt.Sprint("error ", int(x), " ", m.requests)
		case waiting:
			s = fmt.Sprint("waits ", m.requests)
		case nil:
		default:
			panic(x)
		}
	}()
	for _, f := range p.Funcs {
		if f.Name == "main" {
			x := m.call(f, []any{native(event)})
			return fmt.Sprint("value ", written(x), " ", m.requests)
		}
	}
	return "no main"
}

// told returns an outcome as a text like those of modelRun.
func told(o api.Outcome) string {
	var requests []string
	for _, r := range o.Requests {
		var l []string
		for _, v := range r.Args {
			l = append(l, shown(v))
		}
		requests = append(requests, r.Op+"["+strings.Join(l, ",")+"]")
	}
	switch {
	case !o.Done && o.Err == api.OK && o.Value == nil:
		return fmt.Sprint("waits ", requests)
	case o.Done && o.Err != api.OK && o.Value == nil:
		return fmt.Sprint("error ", int(o.Err), " ", requests)
	case o.Done && o.Err == api.OK:
		return fmt.Sprint("value ", shown(o.Value), " ", requests)
	}
	return "impossible"
}
