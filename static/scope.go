package static

import "faas/api"

// noSlot stands for the slot of a node that has no variable.
const noSlot = -1

// scope knows the variables of a function while its nodes are visited in their order.
type scope struct {
	visible map[string]int // the slots of the variables that are visible
	count   int            // the variables so far
}

func newScope(params []string) *scope {
	s := &scope{visible: map[string]int{}}
	for _, name := range params {
		s.add(name)
	}
	return s
}

// add makes the next variable visible, and returns its slot.
func (s *scope) add(name string) int {
	slot := s.count
	s.visible[name] = slot
	s.count++
	return slot
}

// find returns the slot of a variable that must be visible.
func (s *scope) find(name string) (int, api.Errno) {
	slot, ok := s.visible[name]
	if !ok {
		return noSlot, api.ErrName
	}
	return slot, api.OK
}

// declare returns the slot of a new variable, which is visible from here on.
func (s *scope) declare(name string) (int, api.Errno) {
	if _, ok := s.visible[name]; ok {
		return noSlot, api.ErrExists
	}
	if s.count == api.MaxLocals {
		return noSlot, api.ErrLimit
	}
	return s.add(name), api.OK
}

// leave ends the block with these statements. What they declare hides no other variable, as no name is declared while it is visible.
func (s *scope) leave(nodes []api.Node, statements []int) {
	for _, i := range statements {
		if nodes[i].Kind == api.NdLet {
			delete(s.visible, nodes[i].Text)
		}
	}
}
