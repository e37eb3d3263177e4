package ident

import (
	"math"
	"regexp"
	"slices"
	"strconv"
	"strings"
	"testing"

	"faas/api"
)

const (
	longestName = 24
	longestID   = 64
	lastVersion = 32
	greatestInt = 1000000000000
)

// The definitions, as regular expressions. A \z is only the end of the text, not a place before a line feed.
const (
	namePart    = `[a-z][a-z0-9_-]{0,23}`
	versionPart = `(?:[1-9]|[12][0-9]|3[012])`
	idByte      = `[A-Za-z0-9_.:/-]`
)

var (
	nameForm    = regexp.MustCompile(`\A` + namePart + `\z`)
	idForm      = regexp.MustCompile(`\A` + idByte + `{1,64}\z`)
	versionForm = regexp.MustCompile(`\A` + versionPart + `\z`)
	refForm     = regexp.MustCompile(`\A(` + namePart + `)/(` + namePart + `):(` + namePart + `|` + versionPart + `)\z`)
	childForm   = regexp.MustCompile(`\A(` + idByte + `{1,62})\.(0|[1-9][0-9]*)\z`)
	patternForm = regexp.MustCompile(`\A(?:` + idByte + `{1,64}|` + idByte + `{0,63}\*)\z`)
)

// all returns the strings of up to most of the parts.
func all(most int, parts ...string) []string {
	l := []string{""}
	from := 0
	for range most {
		end := len(l)
		for ; from < end; from++ {
			for _, part := range parts {
				l = append(l, l[from]+part)
			}
		}
	}
	return l
}

// strange are texts that are neither names nor identifiers nor patterns: blanks, control characters, letters of other scripts, and bytes that are no characters.
func strange() []string {
	return []string{
		"", " ", "a ", " a", "a b", "\t", "a\n", "\na", "a\nb", "a\r", "\x00", "a\x00", "\x00a", "a\x7f",
		"é", "aé", "éa", "ä", "\uff41", "\u0430bc", "\uff11", "a\uff11", "a\u0663", "\u017f", "\u212a", "a\u0301", "世界", "a\u2013b", "a\u00a0", "a\u200b", "\ufeffa", "\ufffd", "a\ufffd", "\U0001f600",
		"\x80", "\xff", "a\xff", "\xffa", "a\xc3", "\xc3\xa9a\xc3", "a\xed\xa0\x80", "a\xc1\xa1", "\xc1\xa1", "a\xf4\x90\x80\x80",
		"a,b", "a;b", "a+b", "a@b", "a#b", "a\\b", "a|b", "a?b", "a[b]", "a{b}", "a(b)", "a=b", "a&b", "a%2fb", "a~", "a^", "a`", "\"a\"", "'a'", "a!", "$a", "a<b>", "a**",
	}
}

// withBytes returns the texts in which every byte stands at every place of a valid text.
func withBytes(s string) []string {
	var l []string
	for place := range len(s) {
		for b := range 256 {
			text := []byte(s)
			text[place] = byte(b)
			l = append(l, string(text))
		}
	}
	return l
}

// lengths are texts of one character of 1 byte to more than the longest identifier.
func lengths() []string {
	var l []string
	for _, n := range []int{1, 2, 22, 23, 24, 25, 26, 48, 61, 62, 63, 64, 65, 66, 128, 256, 257, 280, 320, 65536 + 24, 65536 + 64, 1 << 20} {
		for _, part := range []string{"a", "z", "A", "Z", "0", "9", "-", "_", ".", ":", "/"} {
			l = append(l, strings.Repeat(part, n), "a"+strings.Repeat(part, n-1), strings.Repeat(part, n-1)+"a", strings.Repeat(part, n-1)+"*")
		}
		l = append(l, strings.Repeat("é", n), strings.Repeat("\xff", n), strings.Repeat("*", n))
	}
	return l
}

// texts are those of all the other lists, and all short strings over one character of each kind.
func texts() []string {
	l := slices.Concat(strange(), lengths(), withBytes("a"), withBytes("a-b_9"), withBytes("A.b:/"), withBytes("ab*"))
	return append(l, all(4, "a", "z", "A", "Z", "0", "9", "-", "_", ".", ":", "/", "*", " ", "é", "\xff")...)
}

// P5.1
func TestName(t *testing.T) {
	for s, want := range map[string]bool{
		"a-1_": true, "A": false, "1a": false, "": false,
		"a": true, "z": true, "abc": true, "a0": true, "a9": true, "a-": true, "a_": true, "a--": true, "z_-0": true, "true": true,
		"0": false, "9": false, "-": false, "_": false, "-a": false, "_a": false, "aB": false, "Za": false, "a.b": false, "a:b": false, "a/b": false, "a*": false, "*": false,
		"abcdefghijklmnopqrstuvwx": true, "abcdefghijklmnopqrstuvwxy": false, "a23456789012345678901234": true, "a234567890123456789012345": false,
		// The length is that in bytes, and these letters are no letters from a to z.
		"é": false, "aé": false, "a\xff": false, "a\n": false, "a ": false, "`": false, "{": false,
	} {
		if Name(s) != want {
			t.Errorf("%.80q: %t", s, !want)
		}
	}
	for _, s := range texts() {
		if got, want := Name(s), nameForm.MatchString(s); got != want {
			t.Errorf("%.80q: %t", s, got)
		}
	}
}

// P5.1
func TestID(t *testing.T) {
	for s, want := range map[string]bool{
		"a.1:b/C": true, "": false,
		"a": true, "z": true, "A": true, "Z": true, "0": true, "9": true, "-": true, "_": true, ".": true, ":": true, "/": true, "-_.:/": true, "acme/resize:3": true, "e7.0": true, "//": true, "..": true,
		"*": false, "a*": false, "a*b": false, "@": false, "[": false, "`": false, "{": false, ",": false, ";": false, "a b": false, "a\n": false, "é": false, "a\xff": false, "+": false,
		strings.Repeat("x", 64): true, strings.Repeat("x", 65): false, strings.Repeat("/", 64): true, strings.Repeat("é", 32): false,
	} {
		if ID(s) != want {
			t.Errorf("%.80q: %t", s, !want)
		}
	}
	for _, s := range texts() {
		if got, want := ID(s), idForm.MatchString(s); got != want {
			t.Errorf("%.80q: %t", s, got)
		}
	}
}

// parts are good and bad parts of references.
func parts() []string {
	l := []string{"a", "acme", "resize", "live", "a-1_", strings.Repeat("n", longestName), strings.Repeat("n", longestName+1), "A", "1a", "a.b", "a/b", "a:b", "a/", "/a", ":a", "a:", "/", ":", "*", "a*", "-", "_", "01", "00", "001", "-0", "-1", "+1", "1.0", " 1", "1 ", "0x1", "1e0", "3 ", "\u0661", "100", "320", "99999999999999999999", strings.Repeat("1", 1000)}
	for n := -1; n <= lastVersion+8; n++ {
		l = append(l, strconv.Itoa(n))
	}
	return append(l, strange()...)
}

// P5.2
func TestRef(t *testing.T) {
	for _, c := range []struct {
		tenant, function, qualifier, want string
	}{
		{"acme", "resize", "3", "acme/resize:3"}, {"acme", "resize", "live", "acme/resize:live"}, {"a", "a", "a", "a/a:a"}, {"a", "b", "1", "a/b:1"}, {"a", "b", "10", "a/b:10"}, {"a", "b", "32", "a/b:32"}, {"a-1_", "b-2_", "c-3_", "a-1_/b-2_:c-3_"},
		{strings.Repeat("a", 24), strings.Repeat("b", 24), strings.Repeat("c", 24), "aaaaaaaaaaaaaaaaaaaaaaaa/bbbbbbbbbbbbbbbbbbbbbbbb:cccccccccccccccccccccccc"},
	} {
		if got, err := Ref(c.tenant, c.function, c.qualifier); got != c.want || err != api.OK {
			t.Errorf("%q, %q, %q: %q, %d", c.tenant, c.function, c.qualifier, got, err)
		}
	}
	for _, tenant := range parts() {
		for _, function := range parts() {
			for _, qualifier := range []string{"a", "1", "32", "33", "0", "A", ""} {
				testRef(t, tenant, function, qualifier)
			}
		}
		for _, qualifier := range parts() {
			testRef(t, tenant, "f", qualifier)
			testRef(t, "t", tenant, qualifier)
		}
	}
}

func testRef(t *testing.T, tenant, function, qualifier string) {
	t.Helper()
	got, err := Ref(tenant, function, qualifier)
	if !nameForm.MatchString(tenant) || !nameForm.MatchString(function) || !nameForm.MatchString(qualifier) && !versionForm.MatchString(qualifier) {
		if got != "" || err != api.ErrName {
			t.Errorf("%.80q, %.80q, %.80q: %q, %d", tenant, function, qualifier, got, err)
		}
		return
	}
	if got != tenant+"/"+function+":"+qualifier || err != api.OK {
		t.Errorf("%.80q, %.80q, %.80q: %q, %d", tenant, function, qualifier, got, err)
	}
	// P5.7
	if a, b, c, err := ParseRef(got); a != tenant || b != function || c != qualifier || err != api.OK {
		t.Errorf("%q: %q, %q, %q, %d", got, a, b, c, err)
	}
}

// refs are references and texts that are similar to them.
func refs() []string {
	longest := strings.Repeat("n", longestName)
	l := []string{
		"acme/resize:3", "acme/resize:live", "a/b:1", "a/b:9", "a/b:10", "a/b:29", "a/b:30", "a/b:32", "a-1_/b-2_:c-3_", longest + "/" + longest + ":" + longest, longest + "/" + longest + ":32",
		"", "/", ":", "/:", ":/", "a", "a/b", "a/b:", "a/:c", "/b:c", "a:c", ":c", "a/", "/b", "b:c", "a:b/c", "a/b/c", "a:b:c", "a//b:c", "a/b::c", "a/b/c:d", "a/b:c:d", "a/b:c/d", "/a/b:c", "a/b:c/", "a/b:c:", ":a/b:c",
		"a/b:0", "a/b:00", "a/b:01", "a/b:33", "a/b:40", "a/b:100", "a/b:-1", "a/b:+1", "a/b:1a", "a/b:1.0", "a/b: 1", "a/b:1 ", "a/b:1\n", "a/b:*", "*", "a/*", "a/b:c*", "a/b:1*", "a/b:99999999999999999999",
		"A/b:c", "a/B:c", "a/b:C", "1/b:c", "a/1:c", "1/1:1", "-a/b:c", "a/_b:c", "a.b/c:d", "a/b.c:d", "a/b:c.d", "a b/c:d", "a/b:c\xff", "é/b:c", "a/b:é", "a\\b:c", "a/b\uff1bc", "a\uff0fb:c",
		longest + "n/b:c", "a/" + longest + "n:c", "a/b:" + longest + "n", strings.Repeat("a/b:", 100), strings.Repeat("a", 1<<20) + "/b:c", "a/b:" + strings.Repeat("1", 1<<20),
	}
	l = slices.Concat(l, withBytes("ac/re:3"), withBytes("ac/re:32"), withBytes("a/b:cd"))
	return slices.Concat(l, strange(), all(7, "a", "1", "/", ":", "-"), all(5, "a", "b", "0", "3", "/", ":", "_", ".", "A", "*", "\xff"))
}

// P5.2
func TestParseRef(t *testing.T) {
	for _, c := range []struct {
		s, tenant, function, qualifier string
	}{
		{"acme/resize:3", "acme", "resize", "3"}, {"acme/resize:live", "acme", "resize", "live"}, {"a/b:c", "a", "b", "c"}, {"a/b:32", "a", "b", "32"}, {"a-/b_:c0", "a-", "b_", "c0"},
	} {
		if a, b, q, err := ParseRef(c.s); a != c.tenant || b != c.function || q != c.qualifier || err != api.OK {
			t.Errorf("%q: %q, %q, %q, %d", c.s, a, b, q, err)
		}
	}
	for _, s := range refs() {
		a, b, q, err := ParseRef(s)
		m := refForm.FindStringSubmatch(s)
		if m == nil {
			if a != "" || b != "" || q != "" || err != api.ErrSyntax {
				t.Errorf("%.80q: %q, %q, %q, %d", s, a, b, q, err)
			}
			continue
		}
		if a != m[1] || b != m[2] || q != m[3] || err != api.OK {
			t.Errorf("%.80q: %q, %q, %q, %d", s, a, b, q, err)
		}
		// P5.7
		if got, err := Ref(a, b, q); got != s || err != api.OK {
			t.Errorf("%q: %q, %d", s, got, err)
		}
	}
}

// numbers are those that a child may have, at the edges and of all numbers of digits, and those that it may not have.
func numbers() []int {
	l := []int{0, 1, 2, 9, 10, 11, 99, 100, 12345, math.MaxInt32, math.MaxInt32 + 1, math.MaxUint32, greatestInt - 1, greatestInt}
	for n := 1; n <= greatestInt; n *= 10 {
		l = append(l, n, n-1, n+1, -n)
	}
	return append(l, -2, -greatestInt-1, greatestInt+2, math.MinInt, math.MinInt+1, math.MaxInt-1, math.MaxInt)
}

// P5.3
func TestChild(t *testing.T) {
	for _, c := range []struct {
		id   string
		n    int
		want string
		err  api.Errno
	}{
		{"e7", 0, "e7.0", api.OK}, {"a.1:b/C", 12, "a.1:b/C.12", api.OK}, {"e", 1000000000000, "e.1000000000000", api.OK}, {".", 5, "..5", api.OK}, {"e7.0", 0, "e7.0.0", api.OK},
		{strings.Repeat("x", 62), 9, strings.Repeat("x", 62) + ".9", api.OK}, {strings.Repeat("x", 50), 1000000000000, "", api.OK}, {strings.Repeat("x", 51), 1000000000000, "", api.ErrLimit}, {strings.Repeat("x", 51), 999999999999, "", api.OK},
		{strings.Repeat("x", 62), 10, "", api.ErrLimit}, {strings.Repeat("x", 63), 0, "", api.ErrLimit}, {strings.Repeat("x", 64), 0, "", api.ErrLimit},
		{"", 0, "", api.ErrName}, {"*", 0, "", api.ErrName}, {"a b", 0, "", api.ErrName}, {"é", 1, "", api.ErrName}, {"a\xff", 1, "", api.ErrName}, {"e*", 1, "", api.ErrName}, {strings.Repeat("x", 65), 0, "", api.ErrName},
		{"e7", -1, "", api.ErrRange}, {"e7", 1000000000001, "", api.ErrRange}, {"e7", math.MinInt, "", api.ErrRange}, {"e7", math.MaxInt, "", api.ErrRange},
		// The first of several errors.
		{"", -1, "", api.ErrName}, {strings.Repeat("x", 65), -1, "", api.ErrName}, {strings.Repeat("x", 64), -1, "", api.ErrRange}, {strings.Repeat("x", 64), 1000000000001, "", api.ErrRange},
	} {
		want := c.want
		if want == "" && c.err == api.OK {
			want = c.id + "." + strconv.Itoa(c.n)
		}
		if got, err := Child(c.id, c.n); got != want || err != c.err {
			t.Errorf("%.80q, %d: %.80q, %d", c.id, c.n, got, err)
		}
	}
}

// P5.3, P5.7: all numbers with identifiers of all lengths, and with texts that are no identifiers.
func TestChildAll(t *testing.T) {
	ids := append(strange(), "e7", "e7.0", "0", "0.0", ".", "..", ".0", "0.", "a/b:c", "-", "-1", "A")
	for n := range longestID + 3 {
		ids = append(ids, strings.Repeat("i", n), strings.Repeat(".", n), strings.Repeat("0", n))
	}
	for _, id := range ids {
		for _, n := range numbers() {
			want, wantErr := id+"."+strconv.Itoa(n), api.OK
			switch {
			case !idForm.MatchString(id):
				want, wantErr = "", api.ErrName
			case n < 0 || n > greatestInt:
				want, wantErr = "", api.ErrRange
			case len(want) > longestID:
				want, wantErr = "", api.ErrLimit
			}
			got, err := Child(id, n)
			if got != want || err != wantErr {
				t.Errorf("%.80q, %d: %.80q, %d", id, n, got, err)
			}
			if p, m, ok := Parent(got); ok != (err == api.OK) || ok && (p != id || m != n) {
				t.Errorf("%.80q, %d: %.80q, %d, %t", id, n, p, m, ok)
			}
		}
	}
}

// P5.3
func TestParent(t *testing.T) {
	for _, c := range []struct {
		id     string
		parent string
		n      int
	}{
		{"e7.0", "e7", 0}, {"e7.0.12", "e7.0", 12}, {"..1", ".", 1}, {"a..1", "a.", 1}, {"1.1", "1", 1}, {"a/b:c.32", "a/b:c", 32}, {"e.1000000000000", "e", 1000000000000}, {"e.00.1", "e.00", 1}, {"-.7", "-", 7},
		{strings.Repeat("x", 62) + ".9", strings.Repeat("x", 62), 9}, {strings.Repeat("x", 50) + ".1000000000000", strings.Repeat("x", 50), 1000000000000},
	} {
		if p, n, ok := Parent(c.id); p != c.parent || n != c.n || !ok {
			t.Errorf("%q: %q, %d, %t", c.id, p, n, ok)
		}
	}
	for _, id := range []string{
		"e7.00", "e7.01", "", ".", "..", "0", "e7", "e7.", ".0", ".1", "e7.-1", "e7.-0", "e7.+1", "e7.a", "e7.1a", "e7.1.", "e7.0x1", "e7.1_0", "e7.1e3", "e7. 1", "e7.1 ", "e7.1\n", "e7:1", "e7/1", "e7,1",
		"e7.1000000000001", "e7.9223372036854775808", "e7.18446744073709551616", "e7.99999999999999999999", "e7." + strings.Repeat("9", 60), "e7." + strings.Repeat("0", 60), "e7.\u0663",
		"*.1", "e*.1", "a b.1", "é.1", "\xff.1", "a\n.1", " .1", "e7.1*", "e7.*",
		strings.Repeat("x", 63) + ".9", strings.Repeat("x", 64) + ".9", strings.Repeat("x", 51) + ".1000000000000", strings.Repeat("x", 62) + ".10", strings.Repeat("x", 65) + ".1", strings.Repeat("x", 1<<20) + ".1", "x." + strings.Repeat("1", 1<<20), strings.Repeat(".", 1<<20),
	} {
		if p, n, ok := Parent(id); p != "" || n != 0 || ok {
			t.Errorf("%.80q: %.80q, %d, %t", id, p, n, ok)
		}
	}
}

// P5.3, P5.7: Parent against the definition, and Child of what it returns.
func TestParentAll(t *testing.T) {
	l := slices.Concat(texts(), refs(), withBytes("e7.0"), withBytes("a.10.32"), withBytes(strings.Repeat("x", 61)+".12"), all(6, "a", "0", "1", ".", "-"))
	for _, id := range l {
		p, n, ok := Parent(id)
		m := childForm.FindStringSubmatch(id)
		wanted := 0
		if m != nil {
			// A number that is too great for Atoi is too great for a child, too.
			read, err := strconv.Atoi(m[2])
			if len(id) > longestID || err != nil || read > greatestInt {
				m = nil
			}
			wanted = read
		}
		if m == nil {
			if p != "" || n != 0 || ok {
				t.Errorf("%.80q: %.80q, %d, %t", id, p, n, ok)
			}
			continue
		}
		if p != m[1] || n != wanted || !ok {
			t.Errorf("%.80q: %.80q, %d, %t", id, p, n, ok)
		}
		if got, err := Child(p, n); got != id || err != api.OK {
			t.Errorf("%q: %q, %d", id, got, err)
		}
	}
}

// P5.4
func TestPattern(t *testing.T) {
	for s, want := range map[string]bool{
		"*": true, "a*b": false, "": false, "a*": true, "a": true, "a.1:b/C": true, "a.1:b/C*": true, "a/*": true, "-_.:/*": true, "Z*": true,
		"**": false, "a**": false, "*a": false, "*a*": false, "a*b*": false, "* ": false, "a *": false, "a b": false, "é*": false, "\xff*": false, "*\xff": false, "a*\n": false, "\n*": false, "\uff0a": false, "a?": false,
		strings.Repeat("x", 64): true, strings.Repeat("x", 65): false, strings.Repeat("x", 63) + "*": true, strings.Repeat("x", 64) + "*": false, strings.Repeat("x", 62) + "**": false,
	} {
		if Pattern(s) != want {
			t.Errorf("%.80q: %t", s, !want)
		}
	}
	for _, s := range texts() {
		if got, want := Pattern(s), patternForm.MatchString(s); got != want {
			t.Errorf("%.80q: %t", s, got)
		}
	}
}

// P5.4
func TestMatches(t *testing.T) {
	for _, c := range []struct {
		pattern, s string
		want       bool
	}{
		{"a/*", "a/", true}, {"a/*", "a/b", true}, {"a/*", "a/b/c", true}, {"a/*", "a", false}, {"a/*", "", false}, {"a/*", "A/", false}, {"a/*", "b/", false}, {"a/*", "ba/", false}, {"a/*", "a/*", true},
		{"*", "", true}, {"*", "a", true}, {"*", "*", true}, {"*", "any text, of any bytes \x00\xff\n", true}, {"*", strings.Repeat("x", 1<<20), true},
		// Any bytes, of any number, may follow.
		{"a*", "a\xff", true}, {"a*", "a é\n", true}, {"a*", "a" + strings.Repeat("x", 1<<20), true}, {"a*", "a*b", true}, {"a*", "\xffa", false},
		{"a", "a", true}, {"a", "", false}, {"a", "aa", false}, {"a", "A", false}, {"a", "a*", false}, {"a", "a\n", false}, {"A.b:/-_9", "A.b:/-_9", true}, {"a.c", "abc", false},
		// What is no pattern matches nothing, not even itself.
		{"", "", false}, {"", "a", false}, {"a*b", "a*b", false}, {"a*b", "axb", false}, {"**", "**", false}, {"**", "", false}, {"*a", "a", false}, {"*a", "*a", false}, {"a b", "a b", false}, {"é", "é", false}, {"é*", "é", false}, {"\xff", "\xff", false},
		{strings.Repeat("x", 64), strings.Repeat("x", 64), true}, {strings.Repeat("x", 65), strings.Repeat("x", 65), false}, {strings.Repeat("x", 63) + "*", strings.Repeat("x", 63), true}, {strings.Repeat("x", 63) + "*", strings.Repeat("x", 62), false}, {strings.Repeat("x", 63) + "*", strings.Repeat("x", 100), true}, {strings.Repeat("x", 64) + "*", strings.Repeat("x", 64), false},
	} {
		if Matches(c.pattern, c.s) != c.want {
			t.Errorf("%.80q, %.80q: %t", c.pattern, c.s, !c.want)
		}
	}
}

// wantedMatch is the definition, in terms of the bytes.
func wantedMatch(pattern, s string) bool {
	if !patternForm.MatchString(pattern) {
		return false
	}
	last := len(pattern) - 1
	if pattern[last] != '*' {
		return pattern == s
	}
	return len(s) >= last && s[:last] == pattern[:last]
}

// P5.4
func TestMatchesAll(t *testing.T) {
	patterns := all(3, "a", "b", "/", "*", "é")
	for _, pattern := range append(patterns, strange()...) {
		for _, s := range slices.Concat(all(4, "a", "b", "/", "*"), strange()) {
			if got := Matches(pattern, s); got != wantedMatch(pattern, s) {
				t.Errorf("%q, %q: %t", pattern, s, got)
			}
		}
	}
}

// P5.4
func TestCovers(t *testing.T) {
	for _, c := range []struct {
		p, q string
		want bool
	}{
		{"a/*", "a/b*", true}, {"a/b", "a/*", false}, {"a/*", "a/*", true}, {"a/b*", "a/*", false}, {"a/*", "a/", true}, {"a/*", "a/b", true}, {"a/*", "a", false}, {"a/*", "a*", false}, {"a*", "a/*", true}, {"a/*", "b/*", false},
		{"*", "*", true}, {"*", "a", true}, {"*", "a*", true}, {"a*", "*", false}, {"a", "*", false}, {"a", "a", true}, {"a", "b", false}, {"a", "a*", false}, {"a*", "a", true}, {"a", "aa", false}, {"a*", "A*", false}, {"ab*", "a*", false}, {"ab*", "ab", true}, {"ab*", "a", false},
		// Both must be patterns.
		{"", "", false}, {"*", "", false}, {"", "*", false}, {"*", "a*b", false}, {"*", "**", false}, {"*", "a b", false}, {"*", "é", false}, {"a*", "a\xff", false}, {"*", "\xff*", false}, {"a*b", "a*b", false}, {"**", "a", false}, {"**", "**", false}, {"*a", "a", false}, {"a b", "a b", false},
		{"*", strings.Repeat("x", 64), true}, {"*", strings.Repeat("x", 65), false}, {"*", strings.Repeat("x", 64) + "*", false}, {strings.Repeat("x", 65), strings.Repeat("x", 65), false}, {strings.Repeat("x", 63) + "*", strings.Repeat("x", 63), true}, {strings.Repeat("x", 63) + "*", strings.Repeat("x", 64), true}, {strings.Repeat("x", 63) + "*", strings.Repeat("x", 62), false}, {strings.Repeat("x", 63) + "*", strings.Repeat("x", 62) + "*", false}, {strings.Repeat("x", 62) + "*", strings.Repeat("x", 63) + "*", true}, {strings.Repeat("x", 64), strings.Repeat("x", 63) + "*", false},
	} {
		if Covers(c.p, c.q) != c.want {
			t.Errorf("%.80q, %.80q: %t", c.p, c.q, !c.want)
		}
	}
}

// P5.4, P5.6: no pattern of up to 3 bytes can tell apart more strings than those of up to 4 bytes over its characters and one more.
func TestCoversAll(t *testing.T) {
	universe := all(4, "a", "b", "*", "\xff")
	patterns := all(3, "a", "b", "*", " ")
	matched := make([][]bool, len(patterns))
	for i, p := range patterns {
		for _, s := range universe {
			matched[i] = append(matched[i], wantedMatch(p, s))
		}
	}
	for i, p := range patterns {
		for j, q := range patterns {
			want := patternForm.MatchString(p) && patternForm.MatchString(q)
			for k := range universe {
				want = want && (matched[i][k] || !matched[j][k])
			}
			if got := Covers(p, q); got != want {
				t.Errorf("%q, %q: %t", p, q, got)
			}
		}
	}
}

// P5.6
func TestCoveringOrder(t *testing.T) {
	patterns := []string{strings.Repeat("x", 62), strings.Repeat("x", 63), strings.Repeat("x", 64), strings.Repeat("x", 61) + "*", strings.Repeat("x", 62) + "*", strings.Repeat("x", 63) + "*", "x*", "a.1:b/C", "a.1:b/*", "a.1*", "-", "-*"}
	for _, s := range all(4, "a", "b", "/", "*") {
		if Pattern(s) {
			patterns = append(patterns, s)
		}
	}
	for _, p := range patterns {
		if !Covers(p, p) {
			t.Errorf("%q does not cover itself", p)
		}
		for _, q := range patterns {
			if !Covers(p, q) {
				testWitness(t, p, q)
				continue
			}
			for _, r := range patterns {
				if Covers(q, r) && !Covers(p, r) {
					t.Errorf("%q covers %q, and this one %q", p, q, r)
				}
			}
		}
	}
}

// testWitness looks for a string that q matches and p does not: it need not be longer than p and q.
func testWitness(t *testing.T, p, q string) {
	t.Helper()
	prefix := strings.TrimSuffix(q, "*")
	for _, s := range []string{prefix, prefix + "\xff", prefix + strings.Repeat("\xff", longestID)} {
		if Matches(q, s) && !Matches(p, s) {
			return
		}
	}
	t.Errorf("%q does not cover %q, but there is no string that shows it", p, q)
}

// P5.5
func TestSorted(t *testing.T) {
	long := strings.Repeat("x", 1<<16)
	for _, c := range []struct {
		l, want []string
	}{
		{nil, nil}, {[]string{}, nil}, {[]string{"b", "a", "b"}, []string{"a", "b"}}, {[]string{"a"}, []string{"a"}}, {[]string{"a", "a", "a"}, []string{"a"}}, {[]string{""}, []string{""}}, {[]string{"", "a", ""}, []string{"", "a"}}, {[]string{"a", "b", "c"}, []string{"a", "b", "c"}}, {[]string{"c", "b", "a", "c", "b", "a"}, []string{"a", "b", "c"}},
		// The order is that of the bytes: not of the letters, nor of the numbers, nor of the lengths.
		{[]string{"a", "B", "b", "A", "_", "-", "0", "10", "9", "/", ":", "."}, []string{"-", ".", "/", "0", "10", "9", ":", "A", "B", "_", "a", "b"}},
		{[]string{"ab", "a", "b", "aa", "", "a\x00"}, []string{"", "a", "a\x00", "aa", "ab", "b"}},
		{[]string{"é", "z", "\xff", "\x80", "\x7f", "世", "\U0001f600", "\ufffd", "e\u0301"}, []string{"e\u0301", "z", "\x7f", "\x80", "é", "世", "\ufffd", "\U0001f600", "\xff"}},
		{[]string{long + "b", long, long + "a", long, long + "b"}, []string{long, long + "a", long + "b"}},
	} {
		before := slices.Clone(c.l)
		if got := Sorted(c.l); !slices.Equal(got, c.want) {
			t.Errorf("%.80q: %.80q", c.l, got)
		}
		if !slices.Equal(c.l, before) {
			t.Errorf("%.80q is changed to %.80q", before, c.l)
		}
	}
}

// P5.5: lists of all lengths, with repetitions, in an order that is mixed up.
func TestSortedMixed(t *testing.T) {
	for n := range 400 {
		l := make([]string, n)
		once := map[string]bool{}
		for i := range l {
			l[i] = strconv.Itoa(i * 7919 % 1009 % (n/2 + 1))
			once[l[i]] = true
		}
		before := slices.Clone(l)
		got := Sorted(l)
		if !slices.Equal(l, before) {
			t.Fatalf("%q is changed to %q", before, l)
		}
		if len(got) != len(once) {
			t.Errorf("%q: %q", l, got)
		}
		for i, s := range got {
			if !once[s] || i > 0 && strings.Compare(got[i-1], s) >= 0 {
				t.Errorf("%q: %q", l, got)
			}
		}
		if again := Sorted(got); !slices.Equal(again, got) {
			t.Errorf("%q: %q", got, again)
		}
	}
}

// P5.5: the result is new memory, also where there is nothing to do.
func TestSortedMemory(t *testing.T) {
	l := []string{"a", "b", "c"}
	got := Sorted(l[:2])
	got[0] = "x"
	_ = append(got, "y")
	if !slices.Equal(l, []string{"a", "b", "c"}) {
		t.Errorf("the argument is changed to %q", l)
	}
	got = Sorted(l)
	l[0] = "z"
	if !slices.Equal(got, []string{"a", "b", "c"}) {
		t.Errorf("the result is changed to %q", got)
	}
}

// P5.5
func TestHas(t *testing.T) {
	long := strings.Repeat("x", 1<<16)
	for _, c := range []struct {
		l    []string
		s    string
		want bool
	}{
		{nil, "", false}, {nil, "a", false}, {[]string{}, "", false}, {[]string{""}, "", true}, {[]string{"a"}, "", false}, {[]string{"a", ""}, "", true}, {[]string{""}, "a", false},
		{[]string{"a", "b", "c"}, "a", true}, {[]string{"a", "b", "c"}, "b", true}, {[]string{"a", "b", "c"}, "c", true}, {[]string{"a", "b", "c"}, "d", false}, {[]string{"a", "b", "c"}, "ab", false}, {[]string{"ab"}, "a", false}, {[]string{"ab"}, "b", false}, {[]string{"a"}, "A", false}, {[]string{"a"}, "a ", false}, {[]string{"a", "a"}, "a", true},
		// The list need not be sorted, and patterns are strings as others are.
		{[]string{"c", "a", "b"}, "c", true}, {[]string{"c", "a", "b"}, "a", true}, {[]string{"c", "a", "b"}, "b", true}, {[]string{"a*"}, "ab", false}, {[]string{"*"}, "a", false}, {[]string{"*"}, "*", true},
		{[]string{"\xff"}, "\xff", true}, {[]string{"\xff"}, "\xfe", false}, {[]string{"\xff"}, "\ufffd", false}, {[]string{"é"}, "e\u0301", false}, {[]string{"a\x00"}, "a", false}, {[]string{long + "a"}, long + "b", false}, {[]string{long + "a", long + "b"}, long + "b", true},
	} {
		before := slices.Clone(c.l)
		if Has(c.l, c.s) != c.want {
			t.Errorf("%.80q, %.80q: %t", c.l, c.s, !c.want)
		}
		if !slices.Equal(c.l, before) {
			t.Errorf("%.80q is changed to %.80q", before, c.l)
		}
	}
}
