package machine

import (
	"slices"

	"faas/api"
	"faas/value"
)

// copyEach returns a list of the copies of all parts.
func copyEach[T any](parts []T, copyPart func(T) T) []T {
	var l []T
	for _, p := range parts {
		l = append(l, copyPart(p))
	}
	return l
}

func copyMachine(m api.Machine) api.Machine {
	m.Value = slices.Clone(m.Value)
	m.Frames = copyEach(m.Frames, copyFrame)
	m.Requests = copyEach(m.Requests, copyRequest)
	return m
}

func copyFrame(f api.Frame) api.Frame {
	f.Locals = copyEach(f.Locals, slices.Clone)
	f.Stack = copyEach(f.Stack, slices.Clone)
	return f
}

func copyRequest(q api.Request) api.Request {
	q.Args = copyEach(q.Args, slices.Clone)
	return q
}

func sameFrame(a, b api.Frame) bool {
	return a.Func == b.Func && a.Pc == b.Pc && slices.EqualFunc(a.Locals, b.Locals, value.Same) && slices.EqualFunc(a.Stack, b.Stack, value.Same)
}

func sameRequest(a, b api.Request) bool {
	return a.Op == b.Op && slices.EqualFunc(a.Args, b.Args, value.Same)
}
