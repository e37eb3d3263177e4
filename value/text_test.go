package value

import (
	"bytes"
	"encoding/json"
	"math/big"
	"regexp"
	"slices"
	"strings"
	"testing"

	"faas/api"
)

// integerForm is that of R6; JSON permits more.
var integerForm = regexp.MustCompile(`\A(?:0|-?[1-9][0-9]*)\z`)

// wantedDecode returns what Decode has to return, as JSON says it: the text of a value is JSON that is the same when it is written again, in bytes from 32 to 126 and with integers.
func wantedDecode(s string) ([]api.Cell, api.Errno) {
	if len(s) > longestText {
		return nil, api.ErrLimit
	}
	if !plain(s) {
		return nil, api.ErrSyntax
	}
	d := json.NewDecoder(strings.NewReader(s))
	d.UseNumber()
	var x any
	if d.Decode(&x) != nil {
		return nil, api.ErrSyntax
	}
	t, ok := treeOf(x)
	var again bytes.Buffer
	e := json.NewEncoder(&again)
	e.SetEscapeHTML(false)
	if e.Encode(x) != nil || again.String() != s+"\n" || !ok {
		return nil, api.ErrSyntax
	}
	v := t.cells()
	if _, err := wanted(v); err != api.OK {
		return nil, err
	}
	return v, api.OK
}

// treeOf returns the tree of what package json has read, and whether all of its numbers are integers.
func treeOf(x any) (t tree, ok bool) {
	switch x := x.(type) {
	case nil:
		return leaf(null()), true
	case bool:
		if x {
			return leaf(boolean(1)), true
		}
		return leaf(boolean(0)), true
	case json.Number:
		n, ok := new(big.Int).SetString(string(x), 10)
		if !ok || !integerForm.MatchString(string(x)) {
			return tree{}, false
		}
		if !n.IsInt64() {
			return leaf(integer(greatestInt + 1)), true
		}
		return leaf(integer(int(n.Int64()))), true
	case string:
		return leaf(str(x)), true
	case []any:
		t := listOf()
		for _, part := range x {
			p, ok := treeOf(part)
			if !ok {
				return tree{}, false
			}
			t.parts = append(t.parts, p)
		}
		return t, true
	}
	return treeOfMap(x.(map[string]any))
}

func treeOfMap(m map[string]any) (t tree, ok bool) {
	t = mapOf()
	for key := range m {
		t.keys = append(t.keys, key)
	}
	slices.Sort(t.keys)
	for _, key := range t.keys {
		p, ok := treeOf(m[key])
		if !ok {
			return tree{}, false
		}
		t.parts = append(t.parts, p)
	}
	return t, true
}

// checkDecode checks Decode, and that Encode of the result is s (P6.12).
func checkDecode(t *testing.T, s string) {
	t.Helper()
	want, wantErr := wantedDecode(s)
	got, err := Decode(s)
	if !slices.Equal(got, want) || err != wantErr || err != api.OK && got != nil {
		t.Errorf("%.200q: %v, %d", s, brief(got), err)
	}
	if err != api.OK {
		return
	}
	if text, err := Encode(got); text != s || err != api.OK || Check(got) != api.OK {
		t.Errorf("%.200q: %.200q, %d", s, text, err)
	}
}

// texts returns the strings of up to most of the parts.
func texts(most int, parts ...string) []string {
	l := []string{""}
	from := 0
	for range most {
		end := len(l)
		for ; from < end; from++ {
			for _, part := range parts {
				l = append(l, l[from]+part)
			}
		}
	}
	return l
}

// P6.10
func TestEncode(t *testing.T) {
	one := leaf(integer(1))
	for _, c := range []struct {
		v    tree
		want string
	}{
		{leaf(null()), "null"}, {leaf(boolean(1)), "true"}, {leaf(boolean(0)), "false"}, {leaf(integer(0)), "0"}, {leaf(integer(-1)), "-1"}, {leaf(integer(100)), "100"}, {leaf(integer(greatestInt)), "1000000000000"}, {leaf(integer(-greatestInt)), "-1000000000000"},
		{leaf(str("")), `""`}, {leaf(str("a")), `"a"`}, {leaf(str(`a"b`)), `"a\"b"`}, {leaf(str(`\`)), `"\\"`}, {leaf(str(`\"`)), `"\\\""`}, {leaf(str(`/'<&>`)), `"/'<&>"`}, {leaf(str(" ~")), `" ~"`}, {leaf(str("\\n")), `"\\n"`}, {leaf(str("[1, 2]")), `"[1, 2]"`},
		{listOf(), "[]"}, {listOf(one), "[1]"}, {listOf(one, leaf(null()), leaf(str("a"))), `[1,null,"a"]`}, {listOf(listOf(), listOf(one, one), one), "[[],[1,1],1]"}, {listOf(listOf(listOf())), "[[[]]]"},
		{mapOf(), "{}"}, {mapOf("a", one), `{"a":1}`}, {mapOf("a", one, "b", leaf(null())), `{"a":1,"b":null}`}, {mapOf("", mapOf("", mapOf())), `{"":{"":{}}}`}, {mapOf(`"`, one, `\`, one), `{"\"":1,"\\":1}`}, {mapOf("a", listOf(one, leaf(null())), "b", leaf(str("x"))), `{"a":[1,null],"b":"x"}`}, {listOf(mapOf("a", one), mapOf(), mapOf("b", one)), `[{"a":1},{},{"b":1}]`}, {mapOf("a", mapOf("b", one), "c", listOf(one), "d", one), `{"a":{"b":1},"c":[1],"d":1}`},
	} {
		v := c.v.cells()
		unchanged(t, v, func() {
			if got, err := Encode(v); got != c.want || err != api.OK {
				t.Errorf("%s: %q, %d", c.want, got, err)
			}
		})
		if got, err := Decode(c.want); !slices.Equal(got, v) || err != api.OK {
			t.Errorf("%s: %v, %d", c.want, got, err)
		}
	}
	for want, l := range invalid() {
		for _, v := range l {
			if got, err := Encode(v); got != "" || err != want {
				t.Errorf("%v: %q, %d", brief(v), got, err)
			}
		}
	}
}

// P6.11
func TestDecode(t *testing.T) {
	for s, want := range map[string]api.Errno{
		"": api.ErrSyntax, "null": api.OK, "[1,2]": api.OK, "[1, 2]": api.ErrSyntax, "01": api.ErrSyntax, "-0": api.ErrSyntax, "-01": api.ErrSyntax, "00": api.ErrSyntax, "+1": api.ErrSyntax, "-": api.ErrSyntax, "--1": api.ErrSyntax, "1-": api.ErrSyntax, "1-1": api.ErrSyntax, "1.0": api.ErrSyntax, "1e3": api.ErrSyntax, "1e": api.ErrSyntax, "0x1": api.ErrSyntax, ".5": api.ErrSyntax, "1_0": api.ErrSyntax, "0": api.OK, "-1": api.OK, "10": api.OK,
		"1000000000000": api.OK, "-1000000000000": api.OK, "1000000000001": api.ErrRange, "-1000000000001": api.ErrRange, "9223372036854775807": api.ErrRange, "9223372036854775808": api.ErrRange, "-9223372036854775808": api.ErrRange, "-9223372036854775809": api.ErrRange, "18446744073709551616": api.ErrRange, "18446744073709551617": api.ErrRange, "1" + strings.Repeat("0", 3999): api.ErrRange, "-1" + strings.Repeat("0", 3998): api.ErrRange, "1" + strings.Repeat("0", 4000): api.ErrLimit, "01000000000001": api.ErrSyntax,
		"[1000000000001]": api.ErrRange, "[1000000000001": api.ErrSyntax, "[1000000000001,]": api.ErrSyntax, "[99999999999999999999,]": api.ErrSyntax, "[99999999999999999999,01]": api.ErrSyntax, `{"a":99999999999999999999}`: api.ErrRange, `{"b":99999999999999999999,"a":1}`: api.ErrSyntax,
		" null": api.ErrSyntax, "null ": api.ErrSyntax, "null\n": api.ErrSyntax, "nullnull": api.ErrSyntax, "nul": api.ErrSyntax, "Null": api.ErrSyntax, "NULL": api.ErrSyntax, "nil": api.ErrSyntax, "True": api.ErrSyntax, "tru": api.ErrSyntax, "true": api.OK, "false": api.OK, "falsee": api.ErrSyntax, "true false": api.ErrSyntax, "a": api.ErrSyntax, "NaN": api.ErrSyntax,
		`""`: api.OK, `"`: api.ErrSyntax, `"a`: api.ErrSyntax, `a"`: api.ErrSyntax, `"a"b"`: api.ErrSyntax, `"\"`: api.ErrSyntax, `"\""`: api.OK, `"\\"`: api.OK, `"\\\"`: api.ErrSyntax, `"\n"`: api.ErrSyntax, `"\/"`: api.ErrSyntax, `"\u0041"`: api.ErrSyntax, `"\`: api.ErrSyntax, `\`: api.ErrSyntax, `"\a"`: api.ErrSyntax, `'a'`: api.ErrSyntax, "\"a\nb\"": api.ErrSyntax, "\"\x1f\"": api.ErrSyntax, "\"\x7f\"": api.ErrSyntax, "\"\x00\"": api.ErrSyntax, `"é"`: api.ErrSyntax, "\"\xff\"": api.ErrSyntax, `" ~"`: api.OK, "\"\\\x00\"": api.ErrSyntax,
		"[": api.ErrSyntax, "]": api.ErrSyntax, "[]": api.OK, "[]]": api.ErrSyntax, "[[]": api.ErrSyntax, "[,]": api.ErrSyntax, "[1,]": api.ErrSyntax, "[,1]": api.ErrSyntax, "[1,,1]": api.ErrSyntax, "[1 ]": api.ErrSyntax, "[ 1]": api.ErrSyntax, "[ ]": api.ErrSyntax, "[1}": api.ErrSyntax, "[1;2]": api.ErrSyntax, "[1][2]": api.ErrSyntax, "1,2": api.ErrSyntax, "[1:2]": api.ErrSyntax, "[]1": api.ErrSyntax, "[12]": api.OK, "[nulltrue]": api.ErrSyntax,
		"{": api.ErrSyntax, "}": api.ErrSyntax, "{}": api.OK, "{]": api.ErrSyntax, "{}}": api.ErrSyntax, `{"a"}`: api.ErrSyntax, `{"a":}`: api.ErrSyntax, `{"a":1`: api.ErrSyntax, `{"a":1,}`: api.ErrSyntax, `{,"a":1}`: api.ErrSyntax, `{"a":1]`: api.ErrSyntax, `{"a" :1}`: api.ErrSyntax, `{"a": 1}`: api.ErrSyntax, `{ "a":1}`: api.ErrSyntax, `{"a":1 }`: api.ErrSyntax, `{"a":1, "b":1}`: api.ErrSyntax, `{a:1}`: api.ErrSyntax, `{1:1}`: api.ErrSyntax, `{null:1}`: api.ErrSyntax, `{[]:1}`: api.ErrSyntax, `{"a"=1}`: api.ErrSyntax, `{"a"::1}`: api.ErrSyntax, `{"a":1"b":1}`: api.ErrSyntax, `{"a",1}`: api.ErrSyntax, `{"a":1:2}`: api.ErrSyntax, `{{"a":1}}`: api.ErrSyntax,
		`{"a":1,"a":2}`: api.ErrSyntax, `{"b":1,"a":2}`: api.ErrSyntax, `{"a":1,"b":2}`: api.OK, `{"a":1,"aa":2}`: api.OK, `{"aa":1,"a":2}`: api.ErrSyntax, `{"":1,"a":2}`: api.OK, `{"":1,"":2}`: api.ErrSyntax, `{"A":1,"a":2}`: api.OK, `{"a":1,"A":2}`: api.ErrSyntax, `{"10":1,"9":2}`: api.OK, `{"9":1,"10":2}`: api.ErrSyntax,
		// The keys are compared, not their texts: " is before #, but \ after it.
		`{"\"":1,"#":2}`: api.OK, `{"#":1,"\"":2}`: api.ErrSyntax, `{"Z":1,"\"":2}`: api.ErrSyntax, `{"\"":1,"Z":2}`: api.OK, `{"Z":1,"\\":2,"a":3}`: api.OK, `{"\"":1,"\"":2}`: api.ErrSyntax, `{"\n":1}`: api.ErrSyntax,
		`{"a":{"z":1},"b":{"a":1}}`: api.OK, `{"m":{"z":1},"n":1}`: api.OK, `[{"b":1},{"a":1}]`: api.OK, `{"a":{"b":1,"a":1}}`: api.ErrSyntax, `[{"b":1,"a":1},1]`: api.ErrSyntax,
	} {
		got, err := Decode(s)
		if err != want || (err == api.OK) != (got != nil) {
			t.Errorf("%.80q: %v, %d", s, brief(got), err)
		}
		checkDecode(t, s)
	}
}

// P6.11: all short strings over the characters and words that matter.
func TestDecodeAll(t *testing.T) {
	for _, s := range texts(5, "[", "]", "{", "}", ",", ":", `"`, `\`, "a", "0", "1", "-", " ") {
		checkDecode(t, s)
	}
	for _, s := range texts(5, "[", "]", "{", "}", ",", ":", `"a"`, `"b":`, "7", "null", "99999999999999999999") {
		checkDecode(t, s)
	}
	for _, s := range texts(4, `"a":`, `"a":1`, `"b":{}`, `"\"":`, `"#":0`, "{", "}", ",", "[", "]", `"Z":`, `"\\":2`) {
		checkDecode(t, "{"+s+"}")
		checkDecode(t, "["+s+"]")
	}
	for _, s := range texts(6, `"`, `\`, "a", " ", "\n") {
		checkDecode(t, `"`+s+`"`)
		checkDecode(t, `{"`+s+`":1}`)
	}
	for _, s := range texts(7, "-", "0", "1", "9") {
		checkDecode(t, s)
	}
}

// P6.11, P6.12: texts of values in which every byte is another one, missing, or preceded by one.
func TestDecodeChanged(t *testing.T) {
	for _, s := range []string{`{"a":[1,null],"b":"x"}`, `[true,false,-12,{"\\":"\"~ "}]`, `1000000000000`, `{"a":{"b":{"c":[]}},"d":[[],{}]}`} {
		checkDecode(t, s)
		for place := range len(s) {
			checkDecode(t, s[:place])
			checkDecode(t, s[place:])
			checkDecode(t, s[:place]+s[place+1:])
			for b := range 256 {
				c := string([]byte{byte(b)})
				checkDecode(t, s[:place]+c+s[place+1:])
				checkDecode(t, s[:place]+c+s[place:])
				checkDecode(t, s+c)
			}
		}
	}
}

// P6.11: the limits, and which error comes first.
func TestDecodeLimits(t *testing.T) {
	one := leaf(integer(1))
	for i, c := range []struct {
		s    string
		want api.Errno
	}{
		{strings.Repeat("[", 8) + strings.Repeat("]", 8), api.OK}, {strings.Repeat("[", 9) + strings.Repeat("]", 9), api.ErrLimit}, {strings.Repeat("[", 7) + "1" + strings.Repeat("]", 7), api.OK}, {strings.Repeat("[", 8) + "1" + strings.Repeat("]", 8), api.ErrLimit}, {strings.Repeat(`{"a":`, 7) + "{}" + strings.Repeat("}", 7), api.OK}, {strings.Repeat(`{"a":`, 8) + "{}" + strings.Repeat("}", 8), api.ErrLimit},
		{strings.Repeat("[", 2000) + strings.Repeat("]", 2000), api.ErrLimit}, {strings.Repeat("[", 4000), api.ErrSyntax}, {strings.Repeat("]", 4000), api.ErrSyntax}, {strings.Repeat("[", 1000) + "1000000000001" + strings.Repeat("]", 1000), api.ErrRange}, {strings.Repeat("[", 1000) + strings.Repeat("]", 999), api.ErrSyntax}, {strings.Repeat(`{"":`, 799) + "{}" + strings.Repeat("}", 799), api.ErrLimit}, {strings.Repeat(`{"":`, 1000), api.ErrSyntax},
		{`"` + strings.Repeat("x", 200) + `"`, api.OK}, {`"` + strings.Repeat("x", 201) + `"`, api.ErrLimit}, {`"` + strings.Repeat("x", 201), api.ErrSyntax}, {`"` + strings.Repeat(`\\`, 200) + `"`, api.OK}, {`"` + strings.Repeat(`\"`, 201) + `"`, api.ErrLimit}, {`"` + strings.Repeat("x", 3998) + `"`, api.ErrLimit}, {`{"` + strings.Repeat("x", 200) + `":1}`, api.OK}, {`{"` + strings.Repeat("x", 201) + `":1}`, api.ErrLimit}, {`{"` + strings.Repeat("x", 201) + `":1000000000001}`, api.ErrRange}, {`{"` + strings.Repeat("x", 201) + `":1,"a":1}`, api.ErrSyntax}, {`["` + strings.Repeat("x", 201) + `",01]`, api.ErrSyntax},
		{repeated(199, one).text(), api.OK}, {repeated(200, one).text(), api.ErrLimit}, {repeated(1999, one).text(), api.ErrLimit}, {repeated(2000, one).text(), api.ErrLimit}, {counted(99, one).text(), api.OK}, {counted(100, one).text(), api.ErrLimit}, {repeated(200, one).text() + ",", api.ErrSyntax}, {strings.TrimSuffix(repeated(200, one).text(), "]") + ",-0]", api.ErrSyntax}, {strings.TrimSuffix(repeated(200, one).text(), "]") + ",1000000000001]", api.ErrRange},
		{textOf(3999, "x").text(), api.OK}, {textOf(4000, "x").text(), api.OK}, {textOf(4001, "x").text(), api.ErrLimit}, {textOf(4000, `"`).text(), api.OK}, {textOf(4001, `\`).text(), api.ErrLimit},
		// A text that is too long is not looked at.
		{strings.Repeat(" ", 4000), api.ErrSyntax}, {strings.Repeat(" ", 4001), api.ErrLimit}, {strings.Repeat("[", 4001), api.ErrLimit}, {strings.Repeat("\x00", 4001), api.ErrLimit}, {strings.Repeat("1", 4001), api.ErrLimit}, {strings.Repeat("1", 4000), api.ErrRange}, {strings.Repeat("0", 4000), api.ErrSyntax}, {strings.Repeat("[", 1<<20), api.ErrLimit},
	} {
		if got, err := Decode(c.s); err != c.want || (err == api.OK) != (got != nil) {
			t.Errorf("%d, %.80q: %v, %d", i, c.s, brief(got), err)
		}
		checkDecode(t, c.s)
	}
}

// P6.12, P6.13
func TestRoundTrip(t *testing.T) {
	for _, want := range valid() {
		v := want.cells()
		text, err := Encode(v)
		if text != want.text() || err != api.OK || len(text) > longestText {
			t.Errorf("%.80s: %.80s, %d", want.text(), text, err)
		}
		if got, err := Decode(text); !slices.Equal(got, v) || err != api.OK {
			t.Errorf("%.80s: %v, %d", text, brief(got), err)
		}
		checkDecode(t, text)
	}
}
