package eval

import (
	"fmt"
	"slices"
	"strings"
	"testing"

	"faas/api"
)

var (
	unaries  = []string{"-", "not"}
	binaries = []string{"+", "-", "*", "/", "%", "==", "!=", "<", "<=", ">", ">="}
	noNames  = []string{"", " ", "and", "or", "=", "!", "++", "<>", "=>", "Not", "neg", "& ", "len", "fail", "//", "- "}
)

// bad are values that are not valid, with the error of value.Check.
var bad = []struct {
	v   []api.Cell
	err api.Errno
}{
	{nil, api.ErrSyntax},
	{[]api.Cell{{}}, api.ErrSyntax},
	{[]api.Cell{{Kind: api.Int, Int: 1}, {Kind: api.Int, Int: 2}}, api.ErrSyntax},
	{[]api.Cell{{Kind: api.List, N: 1}}, api.ErrSyntax},
	{[]api.Cell{{Kind: api.Bool, Int: 2}}, api.ErrSyntax},
	{[]api.Cell{{Kind: api.Str, Str: "\n"}}, api.ErrSyntax},
	{[]api.Cell{{Kind: api.Int, Int: api.MaxInt + 1}}, api.ErrRange},
	{[]api.Cell{{Kind: api.Int, Int: -1 << 63}}, api.ErrRange},
	{[]api.Cell{{Kind: api.List, N: 1}, {Kind: api.Int, Int: api.MaxInt + 1}}, api.ErrRange},
	{[]api.Cell{{Kind: api.Str, Str: strings.Repeat("a", mostStr+1)}}, api.ErrLimit},
	{[]api.Cell{{Kind: api.Map, N: 1}, {Kind: api.Str, Str: strings.Repeat("a", mostStr+1)}, {Kind: api.Null}}, api.ErrLimit},
	{slices.Repeat([]api.Cell{{Kind: api.List, N: 1}}, 8), api.ErrSyntax},
	{append(slices.Repeat([]api.Cell{{Kind: api.List, N: 1}}, 8), api.Cell{Kind: api.Null}), api.ErrLimit},
}

// listOf returns the text of a list of n times x.
func listOf(n int, x string) string {
	return "[" + strings.Join(slices.Repeat([]string{x}, n), ",") + "]"
}

// samples returns the texts of values of all kinds, many of them at a limit.
func samples() []string {
	l := []string{
		"null", "true", "false", `""`, `"a"`, `"ab"`, `"b"`, `"a\"b\\"`, `" "`, `"~"`, `"0"`, `"7"`, `"-7"`, `"07"`, `"-0"`, `"+1"`, `"1 "`, `"1.0"`,
		`"1000000000000"`, `"-1000000000000"`, `"1000000000001"`, `"99999999999999999999"`, `"null"`, `"key"`,
		"[]", "[1]", "[1,2]", "[[]]", `["a",null,{}]`, "[true]", "{}", `{"a":1}`, `{"a":null}`, `{"":0,"a":[1],"b":{"a":2}}`, `{"key":"key"}`,
	}
	for _, n := range []int{0, 1, 2, 3, 7, 10, 999999, 1000000, 1000001, 500000000000, api.MaxInt - 1, api.MaxInt} {
		l = append(l, fmt.Sprint(n))
		if n > 0 {
			l = append(l, fmt.Sprint(-n))
		}
	}
	for _, n := range []int{mostStr / 2, mostStr/2 + 1, mostStr - 1, mostStr} {
		l = append(l, `"`+strings.Repeat("x", n)+`"`, `"`+strings.Repeat(`\"`, n)+`"`)
	}
	for _, n := range []int{98, 99, 100, 101, 198, 199} {
		l = append(l, listOf(n, "1"))
	}
	for _, n := range []int{7, 8} {
		l = append(l, strings.Repeat("[", n)+strings.Repeat("]", n), strings.Repeat(`{"a":`, n-1)+"{}"+strings.Repeat("}", n-1))
	}
	// Their texts have 4000 bytes, 3999, and a half of it.
	wide := `"` + strings.Repeat("y", 197) + `"`
	l = append(l, "["+strings.Repeat(wide+",", 19)+`"`+strings.Repeat("y", 196)+`"]`, "["+strings.Repeat(wide+",", 19)+`"`+strings.Repeat("y", 195)+`"]`, listOf(10, wide))
	var pairs []string
	for i := range 66 {
		pairs = append(pairs, fmt.Sprintf(`"k%02d":[]`, i))
	}
	l = append(l, "{"+strings.Join(pairs, ",")+"}", "{"+strings.Join(pairs, ",")+`,"k66":null}`)
	return l
}

// expect compares a result with a text or an error, and requires that a result with an error has no value.
func expect(t *testing.T, what string, v []api.Cell, err api.Errno, want string, wantErr api.Errno) {
	t.Helper()
	if err != wantErr || err == api.OK && shown(v) != want || err != api.OK && v != nil {
		t.Errorf("%.300s: %.300s %d, not %.300s %d", what, shown(v), err, want, wantErr)
	}
}

// P10.1: what the chapter says.
func TestUnary(t *testing.T) {
	for _, c := range []struct {
		op, v, want string
		err         api.Errno
	}{
		{"-", "5", "-5", api.OK},
		{"-", "-5", "5", api.OK},
		{"-", "0", "0", api.OK},
		{"-", "1000000000000", "-1000000000000", api.OK},
		{"-", "-1000000000000", "1000000000000", api.OK},
		{"not", "true", "false", api.OK},
		{"not", "false", "true", api.OK},
		{"-", "true", "", api.ErrType},
		{"-", `"1"`, "", api.ErrType},
		{"-", "null", "", api.ErrType},
		{"-", "[1]", "", api.ErrType},
		{"not", "0", "", api.ErrType},
		{"not", "null", "", api.ErrType},
		{"not", "{}", "", api.ErrType},
		{"+", "1", "", api.ErrName},
		{"and", "true", "", api.ErrName},
	} {
		v, err := Unary(c.op, cells(t, c.v))
		expect(t, c.op+c.v, v, err, c.want, c.err)
	}
}

// P10.1: all samples, all other names, values that are not valid.
func TestUnarySamples(t *testing.T) {
	for _, s := range samples() {
		for _, op := range unaries {
			v := cells(t, s)
			got, err := Unary(op, v)
			want, wantErr := attempt(func() any { return modelUnary(op, native(v)) })
			expect(t, op+s, got, err, want, wantErr)
			if shown(v) != s {
				t.Error("changed", op, s)
			}
		}
		for _, op := range slices.Concat(noNames, binaries[:1], binaries[2:]) {
			if v, err := Unary(op, cells(t, s)); v != nil || err != api.ErrName {
				t.Error(op, s, v, err)
			}
		}
	}
	for _, b := range bad {
		for _, op := range unaries {
			if v, err := Unary(op, b.v); v != nil || err != b.err {
				t.Error(op, b.v, v, err)
			}
		}
		if v, err := Unary("+", b.v); v != nil || err != api.ErrName {
			t.Error(b.v, v, err)
		}
	}
}

// P10.2: what the chapter says.
func TestBinary(t *testing.T) {
	for _, c := range []struct {
		a, op, b, want string
		err            api.Errno
	}{
		{"-7", "/", "2", "-4", api.OK},
		{"-7", "%", "2", "1", api.OK},
		{"7", "/", "-2", "-4", api.OK},
		{"7", "%", "-2", "-1", api.OK},
		{`"ab"`, "+", `"c"`, `"abc"`, api.OK},
		{`"a\""`, "+", `"\\"`, `"a\"\\"`, api.OK},
		{"[1]", "+", "[2,[3]]", "[1,2,[3]]", api.OK},
		{"[]", "+", "[]", "[]", api.OK},
		{"2", "+", "3", "5", api.OK},
		{"2", "-", "3", "-1", api.OK},
		{"2", "*", "-3", "-6", api.OK},
		{"1000000000000", "+", "0", "1000000000000", api.OK},
		{"1000000000000", "+", "1", "", api.ErrOverflow},
		{"-1000000000000", "-", "1", "", api.ErrOverflow},
		{"1000000", "*", "1000000", "1000000000000", api.OK},
		{"1000000", "*", "-1000001", "", api.ErrOverflow},
		{"1", "/", "0", "", api.ErrDivide},
		{"1", "%", "0", "", api.ErrDivide},
		{"0", "/", "0", "", api.ErrDivide},
		{"1", "<", `"a"`, "", api.ErrType},
		{"1", "/", "null", "", api.ErrType},
		{"1", "+", `"a"`, "", api.ErrType},
		{`"a"`, "+", "1", "", api.ErrType},
		{"[]", "+", "1", "", api.ErrType},
		{"{}", "+", "{}", "", api.ErrType},
		{"true", "+", "true", "", api.ErrType},
		{`"a"`, "-", `"a"`, "", api.ErrType},
		{"[]", "*", "[]", "", api.ErrType},
		{"null", "<", "null", "", api.ErrType},
		{"true", "<", "true", "", api.ErrType},
		{"[]", ">=", "[]", "", api.ErrType},
		{"{}", "<=", "{}", "", api.ErrType},
		{"null", "==", "null", "true", api.OK},
		{"0", "==", "false", "false", api.OK},
		{"1", "!=", `"1"`, "true", api.OK},
		{`{"a":[1]}`, "==", `{"a":[1]}`, "true", api.OK},
		{`{"a":[1]}`, "!=", `{"a":[2]}`, "true", api.OK},
		{"[]", "==", "{}", "false", api.OK},
		{`"a"`, "<", `"ab"`, "true", api.OK},
		{`"b"`, "<", `"ab"`, "false", api.OK},
		{`"a"`, "<=", `"a"`, "true", api.OK},
		{`"Z"`, ">", `"a"`, "false", api.OK},
		{`""`, ">=", `""`, "true", api.OK},
		{`"10"`, "<", `"9"`, "true", api.OK},
		{"10", "<", "9", "false", api.OK},
		{"-2", "<", "-1", "true", api.OK},
		{"1", "and", "true", "", api.ErrName},
		{"true", "or", "true", "", api.ErrName},
		{"1", "not", "1", "", api.ErrName},
	} {
		v, err := Binary(c.op, cells(t, c.a), cells(t, c.b))
		expect(t, c.a+c.op+c.b, v, err, c.want, c.err)
	}
}

// P10.2: the limits of strings and lists, each at its edge.
func TestBinaryLimits(t *testing.T) {
	nested := strings.Repeat("[", 8) + strings.Repeat("]", 8)
	wide := `"` + strings.Repeat("y", 197) + `"` // 20 of them are a text of 4001 bytes
	for _, c := range []struct {
		a, b, want string
		err        api.Errno
	}{
		{`"` + strings.Repeat("a", 150) + `"`, `"` + strings.Repeat("b", 50) + `"`, `"` + strings.Repeat("a", 150) + strings.Repeat("b", 50) + `"`, api.OK},
		{`"` + strings.Repeat("a", 150) + `"`, `"` + strings.Repeat("b", 51) + `"`, "", api.ErrLimit},
		{`"` + strings.Repeat(`\"`, 150) + `"`, `"` + strings.Repeat(`\\`, 50) + `"`, `"` + strings.Repeat(`\"`, 150) + strings.Repeat(`\\`, 50) + `"`, api.OK},
		{listOf(99, "0"), listOf(100, "0"), listOf(199, "0"), api.OK},
		{listOf(100, "0"), listOf(100, "0"), "", api.ErrLimit},
		{"[1]", nested, "[1," + nested[1:], api.OK},
		{listOf(10, wide), listOf(10, wide), "", api.ErrLimit},
		{listOf(10, wide), listOf(9, wide), listOf(19, wide), api.OK},
		{listOf(10, wide), "[" + strings.Repeat(wide+",", 9) + `"` + strings.Repeat("y", 196) + `"]`, "[" + strings.Repeat(wide+",", 19) + `"` + strings.Repeat("y", 196) + `"]`, api.OK},
	} {
		v, err := Binary("+", cells(t, c.a), cells(t, c.b))
		expect(t, c.a+"+"+c.b, v, err, c.want, c.err)
	}
}

// P10.2, P10.3: all pairs of samples.
func TestPairs(t *testing.T) {
	all := samples()
	for _, a := range all {
		for _, b := range all {
			v, w := cells(t, a), cells(t, b)
			x, y := native(v), native(w)
			for _, op := range binaries {
				got, err := Binary(op, v, w)
				want, wantErr := attempt(func() any { return modelBinary(op, x, y) })
				expect(t, a+op+b, got, err, want, wantErr)
			}
			got, err := Index(v, w)
			want, wantErr := attempt(func() any { return modelIndex(x, y) })
			expect(t, a+" at "+b, got, err, want, wantErr)
			if shown(v) != a || shown(w) != b {
				t.Error("changed", a, b)
			}
		}
	}
}

// P10.2, P10.3: names that there are not, and values that are not valid, in the order of the errors.
func TestBinaryErrors(t *testing.T) {
	one, zero, list := cells(t, "1"), cells(t, "0"), cells(t, "[]")
	for _, op := range slices.Concat(noNames, unaries[1:]) {
		for _, b := range slices.Concat([][]api.Cell{one}, [][]api.Cell{bad[0].v, bad[6].v}) {
			if v, err := Binary(op, b, b); v != nil || err != api.ErrName {
				t.Error(op, b, v, err)
			}
		}
	}
	type function struct {
		name string
		call func(a, b []api.Cell) ([]api.Cell, api.Errno)
	}
	functions := []function{{"index", Index}}
	for _, op := range binaries {
		functions = append(functions, function{op, func(a, b []api.Cell) ([]api.Cell, api.Errno) { return Binary(op, a, b) }})
	}
	for _, f := range functions {
		for _, a := range bad {
			for _, b := range [][]api.Cell{one, zero, list, bad[0].v, bad[6].v, bad[9].v} {
				if v, err := f.call(a.v, b); v != nil || err != a.err {
					t.Error(f.name, a.v, b, v, err)
				}
			}
			for _, b := range [][]api.Cell{one, list, cells(t, "{}"), cells(t, "null")} {
				if v, err := f.call(b, a.v); v != nil || err != a.err {
					t.Error(f.name, b, a.v, v, err)
				}
			}
		}
	}
}

// P10.3: what the chapter says.
func TestIndex(t *testing.T) {
	for _, c := range []struct {
		v, i, want string
		err        api.Errno
	}{
		{"[5,6]", "0", "5", api.OK},
		{"[5,6]", "1", "6", api.OK},
		{"[5,6]", "2", "", api.ErrRange},
		{"[5,6]", "-1", "", api.ErrRange},
		{"[]", "0", "", api.ErrRange},
		{"[5,6]", "1000000000000", "", api.ErrRange},
		{`[[1,2],{"a":3},4]`, "1", `{"a":3}`, api.OK},
		{`[[1,2],{"a":3},4]`, "2", "4", api.OK},
		{`{"a":1}`, `"a"`, "1", api.OK},
		{`{"a":1}`, `"b"`, "null", api.OK},
		{`{"a":1}`, `""`, "null", api.OK},
		{`{"a":null,"b":{"c":2}}`, `"b"`, `{"c":2}`, api.OK},
		{`{"a":null,"b":{"c":2}}`, `"c"`, "null", api.OK},
		{"{}", `"a"`, "null", api.OK},
		{"[5,6]", `"0"`, "", api.ErrType},
		{"[5,6]", "true", "", api.ErrType},
		{`{"0":1}`, "0", "", api.ErrType},
		{"{}", "null", "", api.ErrType},
		{`"abc"`, "0", "", api.ErrType},
		{"5", "0", "", api.ErrType},
		{"null", `"a"`, "", api.ErrType},
	} {
		v, err := Index(cells(t, c.v), cells(t, c.i))
		expect(t, c.v+" at "+c.i, v, err, c.want, c.err)
	}
}

// P10.7: == is an equivalence and != its negation, and exactly one of <, == and > holds.
func TestOrder(t *testing.T) {
	holds := func(op string, a, b []api.Cell) bool {
		v, err := Binary(op, a, b)
		if err != api.OK {
			t.Fatal(op, a, b, err)
		}
		return shown(v) == "true"
	}
	var all [][]api.Cell
	for _, s := range samples() {
		all = append(all, cells(t, s))
	}
	for i, a := range all {
		for j, b := range all {
			same := holds("==", a, b)
			if same != (i == j) || same != holds("==", b, a) || same == holds("!=", a, b) {
				t.Error(shown(a), shown(b))
			}
			if a[0].Kind != b[0].Kind || a[0].Kind != api.Int && a[0].Kind != api.Str {
				continue
			}
			count := 0
			for _, op := range []string{"<", "==", ">"} {
				if holds(op, a, b) {
					count++
				}
			}
			if count != 1 || holds("<=", a, b) == holds(">", a, b) || holds(">=", a, b) == holds("<", a, b) || holds("<", a, b) != holds(">", b, a) {
				t.Error(shown(a), shown(b))
			}
		}
	}
}

// P10.7: a - b undoes a + b, and (a / b) * b + a % b is a.
func TestArithmetic(t *testing.T) {
	numbers := []int{0, 1, 2, 3, 7, 10, 999999, 1000000, 333333333333, api.MaxInt - 1, api.MaxInt}
	for _, n := range numbers[1:] {
		numbers = append(numbers, -n)
	}
	undone, divided := 0, 0
	for _, m := range numbers {
		for _, n := range numbers {
			a, b := cells(t, fmt.Sprint(m)), cells(t, fmt.Sprint(n))
			if sum, err := Binary("+", a, b); err == api.OK {
				undone++
				back, err := Binary("-", sum, b)
				expect(t, fmt.Sprint(m, n), back, err, fmt.Sprint(m), api.OK)
			}
			quotient, err := Binary("/", a, b)
			if err != api.OK {
				continue
			}
			divided++
			rest, err := Binary("%", a, b)
			if err != api.OK {
				t.Fatal(m, n, err)
			}
			if product, err := Binary("*", quotient, b); err == api.OK {
				back, err := Binary("+", product, rest)
				expect(t, fmt.Sprint(m, n), back, err, fmt.Sprint(m), api.OK)
			}
		}
	}
	if undone < 200 || divided != len(numbers)*(len(numbers)-1) {
		t.Error(undone, divided)
	}
}

// R3: results share no memory with the arguments.
func TestNewMemory(t *testing.T) {
	for _, f := range []func(v []api.Cell) ([]api.Cell, api.Errno){
		func(v []api.Cell) ([]api.Cell, api.Errno) { return Binary("+", v, cells(t, "[]")) },
		func(v []api.Cell) ([]api.Cell, api.Errno) { return Binary("+", cells(t, "[]"), v) },
		func(v []api.Cell) ([]api.Cell, api.Errno) { return Index(v, cells(t, "0")) },
		func(v []api.Cell) ([]api.Cell, api.Errno) { return Builtin("push", [][]api.Cell{v, v}) },
		func(v []api.Cell) ([]api.Cell, api.Errno) {
			return Builtin("put", [][]api.Cell{cells(t, "{}"), cells(t, `"k"`), v})
		},
		func(v []api.Cell) ([]api.Cell, api.Errno) { return Builtin("str", [][]api.Cell{v[len(v)-1:]}) },
		func(v []api.Cell) ([]api.Cell, api.Errno) { return Builtin("int", [][]api.Cell{v[1:2]}) },
		func(v []api.Cell) ([]api.Cell, api.Errno) {
			o, err := Run(parsed(t, "func main(e) { return e; }"), v, nil, 10)
			return o.Value, err
		},
	} {
		v := cells(t, `[1,[2],{"a":"b"},"c"]`)
		v = append(v, api.Cell{Kind: api.Null})[:len(v)] // with room behind it
		got, err := f(v)
		if err != api.OK {
			t.Fatal(err)
		}
		text := shown(got)
		for i := range v {
			v[i] = api.Cell{Kind: api.Int, Int: 77}
		}
		if shown(got) != text {
			t.Error("shared", text)
		}
	}
}
