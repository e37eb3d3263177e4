package eval

import (
	"fmt"
	"slices"
	"strings"
	"testing"

	"faas/api"
)

// counts are the built-in functions with the numbers of their arguments.
var counts = map[string]int{"len": 1, "str": 1, "int": 1, "push": 2, "put": 3, "keys": 1, "has": 2, "fail": 1}

// argsOf returns the elements of a list with this text.
func argsOf(t *testing.T, s string) [][]api.Cell {
	t.Helper()
	var l [][]api.Cell
	for _, x := range native(cells(t, s)).([]any) {
		l = append(l, cells(t, written(x)))
	}
	return l
}

// P10.4: what the chapter says.
func TestBuiltin(t *testing.T) {
	for _, c := range []struct {
		name, args, want string
		err              api.Errno
	}{
		{"len", `["abc"]`, "3", api.OK},
		{"len", `["\"\\"]`, "2", api.OK},
		{"len", `[""]`, "0", api.OK},
		{"len", "[[1,[2,3],4]]", "3", api.OK},
		{"len", "[[]]", "0", api.OK},
		{"len", `[{"a":1,"b":{"c":2}}]`, "2", api.OK},
		{"len", "[{}]", "0", api.OK},
		{"len", "[1]", "", api.ErrType},
		{"len", "[true]", "", api.ErrType},
		{"len", "[null]", "", api.ErrType},
		{"str", "[true]", `"true"`, api.OK},
		{"str", "[null]", `"null"`, api.OK},
		{"str", "[-12]", `"-12"`, api.OK},
		{"str", `["a\"b"]`, `"a\"b"`, api.OK},
		{"str", `[["a\\",{"k":1}]]`, `"[\"a\\\\\",{\"k\":1}]"`, api.OK},
		{"str", "[" + listOf(99, "1") + "]", `"` + listOf(99, "1") + `"`, api.OK},
		{"str", `[["` + strings.Repeat("a", 196) + `"]]`, `"[\"` + strings.Repeat("a", 196) + `\"]"`, api.OK},
		{"str", `[["` + strings.Repeat("a", 197) + `"]]`, "", api.ErrLimit},
		{"str", `["` + strings.Repeat("a", 200) + `"]`, `"` + strings.Repeat("a", 200) + `"`, api.OK},
		{"int", "[-5]", "-5", api.OK},
		{"int", `["-5"]`, "-5", api.OK},
		{"int", `["07"]`, "null", api.OK},
		{"int", `[""]`, "null", api.OK},
		{"int", `["-0"]`, "null", api.OK},
		{"int", `["1000000000000"]`, "1000000000000", api.OK},
		{"int", `["1000000000001"]`, "null", api.OK},
		{"int", `["99999999999999999999999"]`, "null", api.OK},
		{"int", "[true]", "", api.ErrType},
		{"int", "[null]", "", api.ErrType},
		{"int", "[[1]]", "", api.ErrType},
		{"int", "[{}]", "", api.ErrType},
		{"push", "[[],1]", "[1]", api.OK},
		{"push", "[[1,2],[3]]", "[1,2,[3]]", api.OK},
		{"push", "[{},1]", "", api.ErrType},
		{"push", `["a","b"]`, "", api.ErrType},
		{"put", `[{},"a",1]`, `{"a":1}`, api.OK},
		{"put", `[{"a":1},"a",[2]]`, `{"a":[2]}`, api.OK},
		{"put", `[{"a":1,"c":3},"b",2]`, `{"a":1,"b":2,"c":3}`, api.OK},
		{"put", `[{"a":1},"",{}]`, `{"":{},"a":1}`, api.OK},
		{"put", "[{},1,1]", "", api.ErrType},
		{"put", "[{},null,1]", "", api.ErrType},
		{"put", `[[],"a",1]`, "", api.ErrType},
		{"put", "[[],0,1]", "", api.ErrType},
		{"keys", `[{"":3,"b":1,"c":{"a":2}}]`, `["","b","c"]`, api.OK},
		{"keys", "[{}]", "[]", api.OK},
		{"keys", "[[1]]", "", api.ErrType},
		{"keys", `["a"]`, "", api.ErrType},
		{"has", `[{"a":null},"a"]`, "true", api.OK},
		{"has", `[{"a":null},"b"]`, "false", api.OK},
		{"has", `[{},""]`, "false", api.OK},
		{"has", `[{"b":{"a":1}},"a"]`, "false", api.OK},
		{"has", "[{},1]", "", api.ErrType},
		{"has", `[["a"],"a"]`, "", api.ErrType},
		{"has", `["a","a"]`, "", api.ErrType},
		{"fail", "[null]", "", api.ErrFailed},
		{"fail", `["why"]`, "", api.ErrFailed},
	} {
		v, err := Builtin(c.name, argsOf(t, c.args))
		expect(t, c.name+c.args, v, err, c.want, c.err)
	}
}

// P10.4: the limits of lists and maps, each at its edge.
func TestBuiltinLimits(t *testing.T) {
	seven := strings.Repeat("[", 7) + strings.Repeat("]", 7)
	eight := "[" + seven + "]"
	var pairs []string
	for i := range 66 {
		pairs = append(pairs, fmt.Sprintf(`"k%02d":[]`, i))
	}
	full := "{" + strings.Join(pairs, ",") + "}" // 133 cells
	fuller := "{" + strings.Join(pairs, ",") + `,"k66":` + listOf(65, "0") + "}"
	for _, c := range []struct {
		name string
		args []string
		want string
		err  api.Errno
	}{
		{"push", []string{listOf(198, "1"), "1"}, listOf(199, "1"), api.OK},
		{"push", []string{listOf(199, "1"), "1"}, "", api.ErrLimit},
		{"push", []string{"[]", seven}, eight, api.OK},
		{"push", []string{"[]", eight}, "", api.ErrLimit},
		{"push", []string{"[1]", listOf(197, "1")}, "[1," + listOf(197, "1") + "]", api.OK},
		{"push", []string{"[1]", listOf(198, "1")}, "", api.ErrLimit},
		{"put", []string{full, `"k66"`, listOf(65, "0")}, fuller, api.OK},
		{"put", []string{full, `"k66"`, listOf(66, "0")}, "", api.ErrLimit},
		{"put", []string{fuller, `"k00"`, "0"}, strings.Replace(fuller, "[]", "0", 1), api.OK},
		{"put", []string{fuller, `"k00"`, "[0]"}, "", api.ErrLimit},
		{"put", []string{"{}", `"` + strings.Repeat("k", 200) + `"`, seven}, `{"` + strings.Repeat("k", 200) + `":` + seven + "}", api.OK},
		{"put", []string{"{}", `"a"`, eight}, "", api.ErrLimit},
		{"put", []string{`{"a":0}`, `"a"`, eight}, "", api.ErrLimit},
	} {
		var args [][]api.Cell
		for _, s := range c.args {
			args = append(args, cells(t, s))
		}
		v, err := Builtin(c.name, args)
		expect(t, c.name+strings.Join(c.args, " "), v, err, c.want, c.err)
	}
}

// P10.4: all functions with all samples, alone, in pairs, and with some third values.
func TestBuiltinSamples(t *testing.T) {
	all := samples()
	known := map[string][]api.Cell{}
	natives := map[string]any{}
	for _, s := range append(all, "null", `"a"`, "[]") {
		known[s] = cells(t, s)
		natives[s] = native(known[s])
	}
	check := func(name string, texts ...string) {
		var args [][]api.Cell
		var l []any
		for _, s := range texts {
			args = append(args, known[s])
			l = append(l, natives[s])
		}
		got, err := Builtin(name, args)
		want, wantErr := "", api.ErrType
		if counts[name] == len(args) {
			want, wantErr = attempt(func() any { return modelBuiltin(name, l) })
		}
		expect(t, name+" "+strings.Join(texts, " "), got, err, want, wantErr)
	}
	for name, count := range counts {
		check(name)
		for _, a := range all {
			check(name, a)
			check(name, a, a, a, a)
			for _, b := range all {
				check(name, a, b)
				if count == 3 {
					for _, c := range []string{"null", `"a"`, "[]", all[len(all)-1]} {
						check(name, a, b, c)
					}
				}
			}
		}
	}
	for s, v := range known {
		if shown(v) != s {
			t.Error("changed", s)
		}
	}
}

// P10.4: the order of the errors.
func TestBuiltinErrors(t *testing.T) {
	null, text := cells(t, "null"), cells(t, `"a"`)
	for _, b := range bad {
		for _, name := range slices.Concat(noNames, binaries, []string{"main", "LEN", "len ", "print", "get", "now"}) {
			if _, ok := counts[name]; ok {
				continue
			}
			for _, args := range [][][]api.Cell{nil, {null}, {b.v}, {b.v, b.v}} {
				if v, err := Builtin(name, args); v != nil || err != api.ErrName {
					t.Error(name, args, v, err)
				}
			}
		}
		for name, count := range counts {
			for n := range 5 {
				if v, err := Builtin(name, slices.Repeat([][]api.Cell{b.v}, n)); n != count && (v != nil || err != api.ErrType) {
					t.Error(name, n, v, err)
				}
			}
			for i := range count {
				for _, other := range [][]api.Cell{null, text} {
					args := slices.Repeat([][]api.Cell{other}, count)
					args[i] = b.v
					if v, err := Builtin(name, args); v != nil || err != b.err {
						t.Error(name, args, v, err)
					}
					for j := i + 1; j < count; j++ {
						for _, later := range bad {
							args[j] = later.v
							if v, err := Builtin(name, args); v != nil || err != b.err {
								t.Error(name, args, v, err)
							}
						}
						args[j] = other
					}
				}
			}
		}
	}
}
