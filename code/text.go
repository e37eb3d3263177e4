package code

import (
	"strings"

	"faas/api"
	"faas/frame"
	"faas/lex"
	"faas/num"
)

// The numbers of fields of the records of a code.
const (
	headFields        = 2
	functionFields    = 5
	instructionFields = 3
)

// Encode returns c as a text.
func Encode(c api.Code) (string, api.Errno) {
	if _, err := Check(c); err != api.OK {
		return "", err
	}
	records := [][]string{{num.Format(len(c.Funcs)), num.Format(len(c.Ins))}}
	for _, f := range c.Funcs {
		records = append(records, []string{f.Name, num.Format(f.Params), num.Format(f.Locals), num.Format(f.Entry), num.Format(f.End)})
	}
	for _, in := range c.Ins {
		records = append(records, []string{num.Format(int(in.Op)), num.Format(in.A), in.S})
		for _, key := range in.Keys {
			records = append(records, []string{key})
		}
	}
	return join(records)
}

// join returns the text that consists of the records.
func join(records [][]string) (string, api.Errno) {
	bodies := make([]string, len(records))
	for i, fields := range records {
		body, err := frame.Pack(fields)
		if err != api.OK {
			return "", api.ErrLimit
		}
		bodies[i] = body
	}
	text, err := frame.Join(bodies)
	if err != api.OK {
		return "", api.ErrLimit
	}
	return text, api.OK
}

// Decode returns the code whose text is s.
func Decode(s string) (api.Code, api.Errno) {
	c := read(s)
	// The reading takes what it finds, so this comparison alone decides whether s is a text.
	text, err := Encode(c)
	if err != api.OK || text != s {
		return api.Code{}, api.ErrCorrupt
	}
	return c, api.OK
}

// read returns the code whose text is s, and some code if there is none.
func read(s string) api.Code {
	bodies, _ := frame.Split(s)
	r := reader{bodies}
	head := r.record(headFields)
	funcs, instructions := number(head[0]), number(head[1])
	var c api.Code
	for len(c.Funcs) < funcs && len(r.bodies) > 0 {
		c.Funcs = append(c.Funcs, r.function())
	}
	for len(c.Ins) < instructions && len(r.bodies) > 0 {
		c.Ins = append(c.Ins, r.instruction())
	}
	return c
}

// reader has the bodies of the records that have not been read yet.
type reader struct {
	bodies []string
}

// record reads a record and returns as many fields of it as are asked for, empty ones for those that it does not have.
func (r *reader) record(fields int) []string {
	record := make([]string, fields)
	if len(r.bodies) == 0 {
		return record
	}
	found, _ := frame.Unpack(r.bodies[0])
	r.bodies = r.bodies[1:]
	copy(record, found)
	return record
}

func (r *reader) function() api.CodeFunc {
	record := r.record(functionFields)
	return api.CodeFunc{
		Name:   record[0],
		Params: number(record[1]),
		Locals: number(record[2]),
		Entry:  number(record[3]),
		End:    number(record[4]),
	}
}

func (r *reader) instruction() api.Ins {
	record := r.record(instructionFields)
	in := api.Ins{Op: api.Op(number(record[0])), A: number(record[1]), S: record[2]}
	for in.Op == api.OpMap && len(in.Keys) < in.A && len(r.bodies) > 0 {
		in.Keys = append(in.Keys, r.record(1)[0])
	}
	return in
}

// number returns the integer whose decimal form is s, and 0 if there is none.
func number(s string) int {
	n, _ := num.Parse(s)
	return n
}

// Format returns a line for each function and each instruction of c.
func Format(c api.Code) ([]string, api.Errno) {
	if _, err := Check(c); err != api.OK {
		return nil, err
	}
	var lines []string
	for _, f := range c.Funcs {
		lines = append(lines, "func "+f.Name+" "+num.Format(f.Params)+" "+num.Format(f.Locals))
		for i := f.Entry; i < f.End; i++ {
			lines = append(lines, line(i, c.Ins[i]))
		}
	}
	return lines, api.OK
}

// line returns the line of the instruction in, whose index is i.
func line(i int, in api.Ins) string {
	row := shapes[in.Op]
	parts := []string{num.Format(i), row.name}
	if row.number != none {
		parts = append(parts, num.Format(in.A))
	}
	switch row.text {
	case none:
	case literal:
		parts = append(parts, quoted(in.S))
	default:
		parts = append(parts, in.S)
	}
	for _, key := range in.Keys {
		parts = append(parts, quoted(key))
	}
	return strings.Join(parts, " ")
}

// quoted returns the valid string s as a token.
func quoted(s string) string {
	text, _ := lex.Text(api.Token{Kind: api.TkStr, Text: s})
	return text
}
