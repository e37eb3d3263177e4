package eval

import (
	"faas/api"
	"faas/num"
	"faas/value"
)

func length(v []api.Cell) ([]api.Cell, api.Errno) {
	switch v[0].Kind {
	case api.Str:
		return value.Int(len(v[0].Str))
	case api.List, api.Map:
		return value.Int(v[0].N)
	}
	return nil, api.ErrType
}

// text returns a string as it is, and the text of another value.
func text(v []api.Cell) ([]api.Cell, api.Errno) {
	if v[0].Kind == api.Str {
		return value.Str(v[0].Str)
	}
	s, err := value.Encode(v)
	if err != api.OK {
		return nil, err
	}
	return value.Str(s)
}

// integer returns an integer as it is, and the integer that a string is the decimal form of, or null.
func integer(v []api.Cell) ([]api.Cell, api.Errno) {
	switch v[0].Kind {
	case api.Int:
		return value.Int(v[0].Int)
	case api.Str:
		n, err := num.Parse(v[0].Str)
		if err != api.OK {
			return value.Null(), api.OK
		}
		return value.Int(n)
	}
	return nil, api.ErrType
}

func push(l, v []api.Cell) ([]api.Cell, api.Errno) {
	if l[0].Kind != api.List {
		return nil, api.ErrType
	}
	return list(l[0].N+1, l[1:], v)
}

func put(m, key, v []api.Cell) ([]api.Cell, api.Errno) {
	if key[0].Kind != api.Str {
		return nil, api.ErrType
	}
	return value.Put(m, key[0].Str, v)
}

func keys(m []api.Cell) ([]api.Cell, api.Errno) {
	names, err := value.Keys(m)
	if err != api.OK {
		return nil, err
	}
	var items [][]api.Cell
	for _, name := range names {
		item, err := value.Str(name)
		if err != api.OK {
			return nil, err
		}
		items = append(items, item)
	}
	return value.List(items)
}

func has(m, key []api.Cell) ([]api.Cell, api.Errno) {
	if key[0].Kind != api.Str {
		return nil, api.ErrType
	}
	switch _, err := value.Get(m, key[0].Str); err {
	case api.OK:
		return value.Bool(true), api.OK
	case api.ErrNone:
		return value.Bool(false), api.OK
	default:
		return nil, err
	}
}
