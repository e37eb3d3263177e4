package eval

import "faas/api"

// control is what the evaluation of a node leads to: it is valued, returned or ended.
type control interface {
	// leaves reports whether the rest of the block is left out.
	leaves() bool
}

// valued is the control of an expression, with its value, and of a statement after which the next one follows.
type valued struct{ value []api.Cell }

// returned ends the innermost call with its value.
type returned struct{ value []api.Cell }

// ended ends the program with an error, or as it waits for an answer.
type ended struct {
	err   api.Errno
	waits bool
}

func (valued) leaves() bool   { return false }
func (returned) leaves() bool { return true }
func (ended) leaves() bool    { return true }

// controlOf returns the control of what a function on values returned.
func controlOf(v []api.Cell, err api.Errno) control {
	if err != api.OK {
		return ended{err: err}
	}
	return valued{v}
}
