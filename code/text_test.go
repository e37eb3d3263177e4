package code

import (
	"slices"
	"strconv"
	"strings"
	"testing"

	"faas/api"
	"faas/frame"
)

// everything returns a code with all operations.
func everything() api.Code {
	main := []api.Ins{
		with(api.OpLoad, 0), {Op: api.OpUnary, S: "not"}, test, falseTo(5), jump(0),
		with(api.OpBool, 1), with(api.OpInt, -12), str(`a "b" \c`), dup, mapOf("", `"`, `\`, "k"), with(api.OpStore, 1),
		null, pop, with(api.OpLoad, 1), {Op: api.OpBuilt, S: "keys", A: 1}, with(api.OpInt, 0), index,
		{Op: api.OpHost, S: "get", A: 1}, list(1), {Op: api.OpHost, S: "now"}, plus, with(api.OpCall, 1), ret,
	}
	end := len(main)
	return api.Code{
		Funcs: []api.CodeFunc{{Name: "main", Params: 1, Locals: 2, End: end}, {Name: "f_2", Params: 1, Locals: 32, Entry: end, End: end + 3}},
		Ins:   append(main, str(""), ret, jump(end)),
	}
}

// P11.5
func TestFormat(t *testing.T) {
	want := []string{
		"func main 1 2",
		"0 load 0", "1 unary not", "2 test", "3 false 5", "4 jump 0",
		"5 bool 1", "6 int -12", `7 str "a \"b\" \\c"`, "8 dup", `9 map 4 "" "\"" "\\" "k"`, "10 store 1",
		"11 null", "12 pop", "13 load 1", "14 built 1 keys", "15 int 0", "16 index",
		"17 host 1 get", "18 list 1", "19 host 0 now", "20 binary +", "21 call 1", "22 return",
		"func f_2 1 32",
		`23 str ""`, "24 return", "25 jump 23",
	}
	if got, err := Format(everything()); !slices.Equal(got, want) || err != api.OK {
		t.Errorf("%q, %d", got, err)
	}
	for _, c := range []struct {
		in   api.Ins
		want string
	}{
		{api.Ins{Op: api.OpBuilt, A: 2, S: "push"}, "2 built 2 push"}, {mapOf("a"), `2 map 1 "a"`}, {api.Ins{Op: api.OpUnary, S: "-"}, "2 unary -"},
		{mapOf(), "2 map 0"}, {list(0), "2 list 0"}, {with(api.OpBool, 0), "2 bool 0"}, {with(api.OpInt, 0), "2 int 0"}, {with(api.OpInt, greatest), "2 int 1000000000000"}, {with(api.OpInt, -greatest), "2 int -1000000000000"}, {api.Ins{Op: api.OpBinary, S: "<="}, "2 binary <="},
		{str(" "), `2 str " "`}, {str("a b"), `2 str "a b"`}, {str(strings.Repeat(`\`, 200)), `2 str "` + strings.Repeat(`\\`, 200) + `"`}, {mapOf(" ", "a b"), `2 map 2 " " "a b"`}, {jump(0), "2 jump 0"}, {falseTo(3), "2 false 3"}, {with(api.OpCall, 0), "2 call 0"},
	} {
		got, err := Format(unreached(c.in))
		if want := []string{"func main 1 2", "0 null", "1 return", c.want, "3 return"}; !slices.Equal(got, want) || err != api.OK {
			t.Errorf("%v: %q, %d", c.in, got, err)
		}
	}
	if got, err := Format(api.Code{}); len(got) > 0 || err != api.OK {
		t.Errorf("%q, %d", got, err)
	}
	checkAll(t, everything())
}

// shown returns the fields of a record as the chapters show them.
func shown(records ...string) string {
	var l [][]string
	for _, s := range records {
		l = append(l, strings.Split(s, " "))
	}
	return textOf(l)
}

// P11.4, P11.7: texts that are written out.
func TestEncode(t *testing.T) {
	for _, c := range []struct {
		c    api.Code
		want string
	}{
		{api.Code{}, shown("0 0")},
		{codeOf(with(api.OpLoad, 0), ret), shown("1 2", "main 1 2 0 2", "5 0 ", "20 0 ")},
		{codeOf(str("x"), with(api.OpInt, -7), mapOf("a", "b"), ret), shown("1 4", "main 1 2 0 4", "4 0 x", "3 -7 ", "12 2 ", "a", "b", "20 0 ")},
		{codeOf(mapOf(), ret), shown("1 2", "main 1 2 0 2", "12 0 ", "20 0 ")},
		{codeOf(null, mapOf(""), ret), shown("1 3", "main 1 2 0 3", "1 0 ", "12 1 ", "", "20 0 ")},
		{everything(), textOf(wantedRecords(everything()))},
	} {
		if s, err := Encode(c.c); s != c.want || err != api.OK {
			t.Errorf("%v: %q, %d, not %q", c.c, s, err, c.want)
		}
		if d, err := Decode(c.want); !equal(d, c.c) || err != api.OK {
			t.Errorf("%q: %v, %d", c.want, d, err)
		}
		checkAll(t, c.c)
	}
}

// filled returns a code whose text has the length.
func filled(length int) api.Code {
	var ins []api.Ins
	rest := length - len(textOf(wantedRecords(codeOf(null, ret, ret))))
	// The number of instructions has four digits, and so has End.
	rest -= 6
	empty := len(textOf([][]string{{"4", "0", ""}}))
	for rest > 0 {
		n := min(rest-empty, mostString)
		if left := rest - empty - n; 0 < left && left < empty {
			n -= empty
		}
		ins = append(ins, str(strings.Repeat("x", n)))
		rest -= empty + n
	}
	return unreached(ins...)
}

// P11.4: the text has at most MaxDisk bytes.
func TestEncodeLimit(t *testing.T) {
	for _, n := range []int{mostDisk - 17, mostDisk - 1, mostDisk, mostDisk + 1, mostDisk + 2, mostDisk + 18} {
		c := filled(n)
		if got := len(textOf(wantedRecords(c))); got != n {
			t.Fatalf("%d bytes, not %d", got, n)
		}
		checkAll(t, c)
	}
	keys := make([]string, 64)
	for i := range keys {
		keys[i] = string(rune('!'+i)) + strings.Repeat("k", 199)
	}
	for _, n := range []int{1, 19, 20} {
		checkAll(t, unreached(times(n, mapOf(keys...))...))
	}
	if s, err := Encode(unreached(times(3997, mapOf(keys...))...)); s != "" || err != api.ErrLimit {
		t.Errorf("%d bytes, %d", len(s), err)
	}
	// The error of Check comes first.
	c := filled(mostDisk + 1)
	c.Ins[0] = pop
	if s, err := Encode(c); s != "" || err != api.ErrStack {
		t.Errorf("%d bytes, %d", len(s), err)
	}
}

// corrupt checks that nothing is read from s.
func corrupt(t *testing.T, s string) {
	t.Helper()
	if c, err := Decode(s); !equal(c, api.Code{}) || err != api.ErrCorrupt {
		t.Errorf("%q: %v, %d", s, c, err)
	}
}

// P11.4: bytes that are changed, missing or added.
func TestDecodeDamaged(t *testing.T) {
	for _, c := range []api.Code{{}, codeOf(null, ret), everything()} {
		s := textOf(wantedRecords(c))
		for i := range len(s) {
			corrupt(t, s[:i])
			corrupt(t, s[i+1:])
			corrupt(t, s[:i]+s[i+1:])
			for _, b := range []byte{0, 1, '0', '1', ' ', s[i] + 1, s[i] - 1, s[i] ^ 128} {
				if b != s[i] {
					corrupt(t, s[:i]+string([]byte{b})+s[i+1:])
				}
				corrupt(t, s[:i]+string([]byte{b})+s[i:])
			}
		}
		corrupt(t, s+"\x00")
		corrupt(t, s+s)
		corrupt(t, s+shown("0 0"))
		corrupt(t, s+strings.Repeat("\x00", 8))
		corrupt(t, strings.Repeat("\x00", 8)+s)
	}
	corrupt(t, "")
	corrupt(t, strings.Repeat("\x00", 1<<20))
	corrupt(t, strings.Repeat("x", mostDisk+1))
}

// P11.4: records that are well sealed, but not those of a code.
func TestDecodeRecords(t *testing.T) {
	for _, c := range []api.Code{{}, codeOf(null, ret), everything()} {
		records := wantedRecords(c)
		for i := range records {
			corrupt(t, textOf(slices.Delete(slices.Clone(records), i, i+1)))
			for _, record := range [][]string{nil, {""}, {"0"}, {"k"}, {"0", "0"}, {"1", "0", ""}, {"f", "0", "0", "0", "1"}, records[i]} {
				corrupt(t, textOf(slices.Insert(slices.Clone(records), i, record)))
				corrupt(t, textOf(append(slices.Clone(records), record)))
			}
			for k := range records[i] {
				short := slices.Clone(records)
				short[i] = slices.Delete(slices.Clone(records[i]), k, k+1)
				corrupt(t, textOf(short))
				long := slices.Clone(records)
				long[i] = slices.Insert(slices.Clone(records[i]), k, records[i][k])
				corrupt(t, textOf(long))
			}
			for _, more := range []string{"", "0", "x"} {
				long := slices.Clone(records)
				long[i] = append(slices.Clone(records[i]), more)
				corrupt(t, textOf(long))
			}
		}
	}
	body, _ := frame.Pack([]string{"0", "0"})
	for _, b := range []string{"", body[:len(body)-1], body + "\x00", "\x41" + body[1:], "\x03" + body[1:], "\x01" + body[1:]} {
		sealed, _ := frame.Seal(b)
		corrupt(t, sealed)
	}
}

// P11.4: numbers have only their decimal form, and counts their only value.
func TestDecodeNumbers(t *testing.T) {
	forms := []string{"", "0", "1", "2", "3", "4", "5", "20", "21", "-1", "-0", "00", "+1", "1 ", " 1", "1.0", "0x1", "1_0", "a", "01", "1000000000000", "-1000000000000", "1000000000001", "4611686018427387904", "9223372036854775807", "9223372036854775808", "18446744073709551616", "18446744073709551617", strings.Repeat("9", 4000)}
	read := 0
	for _, c := range []api.Code{{}, codeOf(null, ret), codeOf(null, mapOf("a"), with(api.OpStore, 0), null, list(1), ret), everything()} {
		records := wantedRecords(c)
		for i := range records {
			for k := range records[i] {
				for _, form := range append(forms, "0"+records[i][k], "+"+records[i][k], records[i][k]+" ", records[i][k]+"\x00") {
					changed := slices.Clone(records)
					changed[i] = slices.Clone(records[i])
					changed[i][k] = form
					if s := textOf(changed); decodable(changed) {
						d, err := Decode(s)
						if err != api.OK || textOf(wantedRecords(d)) != s {
							t.Errorf("%q: %v, %d", changed, d, err)
						}
						checkAll(t, d)
						read++
					} else {
						corrupt(t, s)
					}
				}
			}
		}
	}
	if read < 100 {
		t.Error(read)
	}
}

// decodable reports whether the records are those of a code, and reads them one after the other.
func decodable(records [][]string) bool {
	bad := false
	numberOf := func(s string) int {
		n, err := strconv.Atoi(s)
		bad = bad || err != nil || strconv.Itoa(n) != s
		return n
	}
	next := func(fields int) []string {
		if len(records) == 0 || len(records[0]) != fields {
			bad = true
			return make([]string, fields)
		}
		record := records[0]
		records = records[1:]
		return record
	}
	var c api.Code
	head := next(2)
	funcs, instructions := numberOf(head[0]), numberOf(head[1])
	for i := 0; i < funcs && !bad; i++ {
		r := next(5)
		c.Funcs = append(c.Funcs, api.CodeFunc{Name: r[0], Params: numberOf(r[1]), Locals: numberOf(r[2]), Entry: numberOf(r[3]), End: numberOf(r[4])})
	}
	for i := 0; i < instructions && !bad; i++ {
		r := next(3)
		in := api.Ins{Op: api.Op(numberOf(r[0])), A: numberOf(r[1]), S: r[2]}
		for in.Op == api.OpMap && len(in.Keys) < in.A && !bad {
			in.Keys = append(in.Keys, next(1)[0])
		}
		c.Ins = append(c.Ins, in)
	}
	if bad || len(records) > 0 || funcs < 0 || instructions < 0 {
		return false
	}
	_, err, _ := wantedCheck(c)
	return err == api.OK
}

// P11.4: counts that are far greater than what follows are no reason to read on.
func TestDecodeCounts(t *testing.T) {
	for _, s := range []string{"1 2", "2 2", "1 3", "0 2", "1 1", "1000000000000 2", "1 1000000000000", "1000000000000 1000000000000", "-1 2", "1 -2", "-1 -2", "2 1"} {
		text := shown(s, "main 1 2 0 2", "5 0 ", "20 0 ")
		if s == "1 2" {
			if c, err := Decode(text); !equal(c, codeOf(with(api.OpLoad, 0), ret)) || err != api.OK {
				t.Error(c, err)
			}
		} else {
			corrupt(t, text)
		}
	}
	for _, a := range []string{"2", "3", "64", "65", "1000000000000", "-1", "0"} {
		corrupt(t, shown("1 4", "main 1 2 0 4", "1 0 ", "20 0 ", "12 "+a+" ", "k", "20 0 "))
		corrupt(t, shown("1 4", "main 1 2 0 4", "1 0 ", "20 0 ", "12 "+a+" ", "k"))
	}
	corrupt(t, shown("1 4", "main 1 2 0 4", "1 0 ", "20 0 ", "11 1 ", "k", "20 0 "))
	// Without functions there are no instructions.
	corrupt(t, shown("0 1", "20 0 "))
	corrupt(t, shown("0 0", "20 0 "))
	// The code is read, but has an error.
	corrupt(t, shown("1 2", "main 1 2 0 2", "7 0 ", "20 0 "))
	corrupt(t, shown("1 1", "main 1 2 0 1", "20 0 "))
}
