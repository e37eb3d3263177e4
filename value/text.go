package value

import (
	"strings"

	"faas/api"
	"faas/num"
)

// Encode returns the text of v.
func Encode(v []api.Cell) (string, api.Errno) {
	if err := Check(v); err != api.OK {
		return "", err
	}
	var text []byte
	walk(v, func(c api.Cell, at spot) {
		text = appendText(text, c, at)
	})
	return string(text), api.OK
}

// appendText appends what a visited cell, or the end of a list or map, contributes to the text.
func appendText(text []byte, c api.Cell, at spot) []byte {
	if c.Kind == api.NoKind {
		return append(text, closing(at.in)...)
	}
	if at.part > 0 {
		text = append(text, separator(at)...)
	}
	switch c.Kind {
	case api.Null:
		return append(text, "null"...)
	case api.Bool:
		if c.Int == 0 {
			return append(text, "false"...)
		}
		return append(text, "true"...)
	case api.Int:
		return append(text, num.Format(c.Int)...)
	case api.Str:
		return appendQuoted(text, c.Str)
	case api.List:
		return append(text, '[')
	}
	return append(text, '{')
}

func closing(kind api.Kind) string {
	if kind == api.Map {
		return "}"
	}
	return "]"
}

// separator returns what precedes a part that is not the first one.
func separator(at spot) string {
	if at.in == api.Map && !at.isKey() {
		return ":"
	}
	return ","
}

func appendQuoted(text []byte, s string) []byte {
	text = append(text, '"')
	for i := range len(s) {
		if s[i] == '"' || s[i] == '\\' {
			text = append(text, '\\')
		}
		text = append(text, s[i])
	}
	return append(text, '"')
}

// Decode returns the value whose text is s.
func Decode(s string) ([]api.Cell, api.Errno) {
	// This also bounds how deeply the methods of the reader call each other.
	if len(s) > api.MaxField {
		return nil, api.ErrLimit
	}
	r := reader{rest: s}
	if !r.value() || r.rest != "" {
		return nil, api.ErrSyntax
	}
	return checked(r.cells)
}

// reader turns a text into cells. Its methods report whether the text goes on as they expect; what is wrong with the cells is left to Check.
type reader struct {
	rest  string
	cells []api.Cell
}

func (r *reader) add(c api.Cell) {
	r.cells = append(r.cells, c)
}

// accept skips s, if the rest begins with it.
func (r *reader) accept(s string) bool {
	rest, ok := strings.CutPrefix(r.rest, s)
	r.rest = rest
	return ok
}

func (r *reader) value() bool {
	switch {
	case r.accept("null"):
		r.add(api.Cell{Kind: api.Null})
	case r.accept("false"):
		r.add(api.Cell{Kind: api.Bool})
	case r.accept("true"):
		r.add(api.Cell{Kind: api.Bool, Int: 1})
	case r.accept(`"`):
		return r.stringEnd()
	case r.accept("["):
		return r.groupEnd(api.List, r.value)
	case r.accept("{"):
		return r.groupEnd(api.Map, r.pair)
	default:
		return r.integer()
	}
	return true
}

func (r *reader) integer() bool {
	after := strings.TrimLeft(r.rest, "-0123456789")
	n, err := num.Parse(r.rest[:len(r.rest)-len(after)])
	if err == api.ErrSyntax {
		return false
	}
	if err == api.ErrRange {
		// The integer may not fit into a cell; any other one that is out of range has the same error in Check.
		n = api.MaxInt + 1
	}
	r.add(api.Cell{Kind: api.Int, Int: n})
	r.rest = after
	return true
}

// stringEnd reads a string whose first quote is read already.
func (r *reader) stringEnd() bool {
	var s []byte
	for !r.accept(`"`) {
		escaped := r.accept(`\`)
		if r.rest == "" || escaped && r.rest[0] != '"' && r.rest[0] != '\\' {
			return false
		}
		s = append(s, r.rest[0])
		r.rest = r.rest[1:]
	}
	r.add(api.Cell{Kind: api.Str, Str: string(s)})
	return true
}

// pair reads a key and its value.
func (r *reader) pair() bool {
	return r.accept(`"`) && r.stringEnd() && r.accept(":") && r.value()
}

// groupEnd reads a list or map whose first bracket is read already; item reads an element or a pair.
func (r *reader) groupEnd(kind api.Kind, item func() bool) bool {
	place := len(r.cells)
	r.add(api.Cell{Kind: kind})
	if r.accept(closing(kind)) {
		return true
	}
	for {
		if !item() {
			return false
		}
		r.cells[place].N++
		if !r.accept(",") {
			return r.accept(closing(kind))
		}
	}
}
