package value

import "faas/api"

// spot is where a cell stands in a value: its level, counted from 1, the kind of the list or map that it is a part of (NoKind: of none), and which part. The parts of a map are its keys and values in turn.
type spot struct {
	level int
	in    api.Kind
	part  int
}

func (s spot) isKey() bool {
	return s.in == api.Map && s.part%2 == 0
}

// group is a list or map whose parts are being visited.
type group struct {
	next spot   // of its next part
	left int    // parts that are still to come
	key  string // the latest one
}

// takes reports whether the cell can be the key that comes next.
func (g group) takes(c api.Cell) bool {
	return c.Kind == api.Str && (g.next.part == 0 || g.key < c.Str)
}

// walk visits the cells of v in turn and, as cells of no kind that stand behind the last part, the ends of lists and maps. It stops where v turns out not to be well-formed, and reports whether it is. It keeps a list of its own instead of calling itself, as v may be nested to any level.
func walk(v []api.Cell, visit func(c api.Cell, at spot)) bool {
	// The value is the only part of a group around it.
	open := []group{{next: spot{level: 1}, left: 1}}
	for _, c := range v {
		// As no part is without a cell, a greater N cannot be right; twice this one is still an int.
		if len(open) == 0 || !isProper(c) || c.N > len(v) {
			return false
		}
		in := &open[len(open)-1]
		at := in.next
		if at.isKey() {
			if !in.takes(c) {
				return false
			}
			in.key = c.Str
		}
		in.next.part++
		in.left--
		visit(c, at)
		if isGroup(c) {
			open = append(open, group{next: spot{level: at.level + 1, in: c.Kind}, left: parts(c)})
		}
		open = closed(open, visit)
	}
	return len(open) == 0
}

// closed visits the ends of the innermost groups of which no part is left, and returns the groups around them. An end is at the level of its list or map.
func closed(open []group, visit func(c api.Cell, at spot)) []group {
	for len(open) > 0 {
		last := len(open) - 1
		if open[last].left > 0 {
			break
		}
		if end := open[last].next; end.in != api.NoKind {
			end.level--
			visit(api.Cell{}, end)
		}
		open = open[:last]
	}
	return open
}

func isGroup(c api.Cell) bool {
	return c.Kind == api.List || c.Kind == api.Map
}

// parts returns the number of parts of the list or map that begins with c, and 0 for a scalar.
func parts(c api.Cell) int {
	if c.Kind == api.Map {
		return 2 * c.N
	}
	return c.N
}

// isProper reports whether c is a cell of a well-formed value, as far as the cells around it do not matter.
func isProper(c api.Cell) bool {
	switch c.Kind {
	case api.Null:
		return c == api.Cell{Kind: c.Kind}
	case api.Bool:
		return c == api.Cell{Kind: c.Kind, Int: c.Int} && (c.Int == 0 || c.Int == 1)
	case api.Int:
		return c == api.Cell{Kind: c.Kind, Int: c.Int}
	case api.Str:
		return c == api.Cell{Kind: c.Kind, Str: c.Str} && isPlain(c.Str)
	case api.List, api.Map:
		return c == api.Cell{Kind: c.Kind, N: c.N} && c.N >= 0
	}
	return false
}

// isPlain reports whether s has only bytes from 32 to 126.
func isPlain(s string) bool {
	for i := range len(s) {
		if s[i] < 32 || s[i] > 126 {
			return false
		}
	}
	return true
}
