package eval

import (
	"slices"

	"faas/api"
	"faas/syntax"
	"faas/value"
)

// run is the evaluation of a program that passes the static checks. Values are never changed in place, so they may share memory until they become results.
type run struct {
	program   api.Program
	slots     []int // of the variable of each node
	answers   []api.Answer
	fuel      int
	calls     int          // that are active
	variables [][]api.Cell // of the innermost call, by their slots
	requests  []api.Request
}

// outcome evaluates the call of main.
func (r *run) outcome(event []api.Cell) api.Outcome {
	c := r.call(syntax.Find(r.program, "main"), [][]api.Cell{event})
	o := api.Outcome{Requests: r.requests}
	switch c := c.(type) {
	case valued:
		o.Done = true
		o.Value = slices.Clone(c.value)
	case ended:
		o.Done = !c.waits
		o.Err = c.err
	}
	return o
}

// call evaluates the body of the function f.
func (r *run) call(f int, args [][]api.Cell) control {
	if r.calls == api.MaxCalls {
		return ended{err: api.ErrStack}
	}
	outer := r.variables
	r.calls++
	r.variables = make([][]api.Cell, api.MaxLocals)
	copy(r.variables, args)
	c := r.evaluate(r.program.Funcs[f].Body)
	r.calls--
	r.variables = outer
	switch c := c.(type) {
	case returned:
		return valued{c.value}
	case ended:
		return c
	}
	return valued{value.Null()}
}

// evaluate evaluates the node i.
func (r *run) evaluate(i int) control {
	if r.fuel == 0 {
		return ended{err: api.ErrSteps}
	}
	r.fuel--
	n := r.program.Nodes[i]
	switch {
	case n.Kind == api.NdBinary && !isBinary(n.Text):
		return r.decide(n)
	case n.Kind == api.NdIf:
		return r.choose(n)
	case n.Kind == api.NdWhile:
		return r.repeat(n)
	case n.Kind == api.NdBlock:
		return r.follow(n.Kids)
	}
	operands, stop := r.operands(n.Kids)
	if stop != nil {
		return stop
	}
	return r.apply(i, operands)
}

// operands returns the values of the nodes, or the control that is not a value.
func (r *run) operands(nodes []int) ([][]api.Cell, control) {
	var values [][]api.Cell
	for _, i := range nodes {
		switch c := r.evaluate(i).(type) {
		case valued:
			values = append(values, c.value)
		default:
			return nil, c
		}
	}
	return values, nil
}

// apply completes the evaluation of the node i, whose operands have these values.
func (r *run) apply(i int, v [][]api.Cell) control {
	n := r.program.Nodes[i]
	switch n.Kind {
	case api.NdVar:
		return valued{r.variables[r.slots[i]]}
	case api.NdLet, api.NdSet:
		r.variables[r.slots[i]] = v[0]
		return valued{}
	case api.NdDo:
		return valued{}
	case api.NdReturn:
		return returned{v[0]}
	case api.NdHost:
		return r.request(n.Text, v)
	case api.NdCall:
		if f := syntax.Find(r.program, n.Text); f >= 0 {
			return r.call(f, v)
		}
	}
	return controlOf(result(n, v))
}

// result returns the value of a node that depends on its operands alone.
func result(n api.Node, v [][]api.Cell) ([]api.Cell, api.Errno) {
	switch n.Kind {
	case api.NdBool:
		return value.Bool(n.Int == 1), api.OK
	case api.NdInt:
		return value.Int(n.Int)
	case api.NdStr:
		return value.Str(n.Text)
	case api.NdList:
		return value.List(v)
	case api.NdMap:
		return value.Map(n.Keys, v)
	case api.NdUnary:
		return Unary(n.Text, v[0])
	case api.NdBinary:
		return Binary(n.Text, v[0], v[1])
	case api.NdIndex:
		return Index(v[0], v[1])
	case api.NdCall:
		return Builtin(n.Text, v)
	}
	return value.Null(), api.OK
}

// request asks for a host operation.
func (r *run) request(op string, args [][]api.Cell) control {
	k := len(r.requests)
	if k == api.MaxRequests {
		return ended{err: api.ErrLimit}
	}
	r.requests = append(r.requests, api.Request{Op: op, Args: copied(args)})
	if k >= len(r.answers) {
		return ended{waits: true}
	}
	a := r.answers[k]
	if a.Err != api.OK {
		return ended{err: a.Err}
	}
	if value.Check(a.Value) != api.OK {
		return ended{err: api.ErrCorrupt}
	}
	return valued{a.Value}
}

func copied(values [][]api.Cell) [][]api.Cell {
	var l [][]api.Cell
	for _, v := range values {
		l = append(l, slices.Clone(v))
	}
	return l
}

// test returns the value of a condition, or the control that is not a boolean.
func (r *run) test(i int) (bool, control) {
	switch c := r.evaluate(i).(type) {
	case valued:
		if c.value[0].Kind != api.Bool {
			return false, ended{err: api.ErrType}
		}
		return isTrue(c.value), nil
	default:
		return false, c
	}
}

// decide evaluates the operators and and or, whose right operand is not evaluated if the left one decides.
func (r *run) decide(n api.Node) control {
	yes, stop := r.test(n.Kids[0])
	if stop == nil && yes == (n.Text == "and") {
		yes, stop = r.test(n.Kids[1])
	}
	if stop != nil {
		return stop
	}
	return valued{value.Bool(yes)}
}

// choose evaluates an if statement.
func (r *run) choose(n api.Node) control {
	yes, stop := r.test(n.Kids[0])
	switch {
	case stop != nil:
		return stop
	case yes:
		return r.evaluate(n.Kids[1])
	case len(n.Kids) > 2:
		return r.evaluate(n.Kids[2])
	}
	return valued{}
}

// repeat evaluates a while statement.
func (r *run) repeat(n api.Node) control {
	for {
		yes, stop := r.test(n.Kids[0])
		if stop != nil {
			return stop
		}
		if !yes {
			return valued{}
		}
		if c := r.evaluate(n.Kids[1]); c.leaves() {
			return c
		}
	}
}

// follow evaluates the statements of a block.
func (r *run) follow(statements []int) control {
	for _, i := range statements {
		if c := r.evaluate(i); c.leaves() {
			return c
		}
	}
	return valued{}
}
