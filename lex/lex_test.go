package lex

import (
	"math"
	"math/rand"
	"regexp"
	"slices"
	"strconv"
	"strings"
	"testing"

	"faas/api"
)

// The limits, as the chapter says them.
const (
	longestName   = 24
	longestString = 200
	longestSource = 4000
	mostTokens    = 1000
	greatestInt   = 1000000000000
)

var (
	keywords = []string{"func", "let", "if", "else", "while", "return", "and", "or", "not", "null", "true", "false"}
	symbols  = []string{"(", ")", "{", "}", "[", "]", ",", ";", ":", "=", "==", "!=", "<", "<=", ">", ">=", "+", "-", "*", "/", "%"}
)

// The definitions as regular expressions, at the beginning of a text.
var (
	ignoredForm = regexp.MustCompile(`\A(?:[ \t\n]|//[^\n]*)*`)
	runForm     = regexp.MustCompile(`\A[a-z_][a-z0-9_]*`)
	digitsForm  = regexp.MustCompile(`\A[0-9]+`)
	contentForm = regexp.MustCompile(`\A(?:[ !]|[#-\[]|[\]-~]|\\"|\\\\)`) // one byte of the contents of a string
	symbolForm  = regexp.MustCompile(`\A(?:==|!=|<=|>=|[(){}\[\],;:=<>+*/%-])`)
)

// wantedToken reads the first token of s, or returns the error and its offset.
func wantedToken(s string) (t api.Token, n int, err api.Errno) {
	run := func(s string) (string, api.Errno) {
		r := runForm.FindString(s)
		if len(r) > longestName {
			return "", api.ErrLimit
		}
		return r, api.OK
	}
	switch {
	case runForm.MatchString(s):
		r, err := run(s)
		if err != api.OK {
			return api.Token{}, 0, err
		}
		if slices.Contains(keywords, r) {
			return api.Token{Kind: api.TkWord, Text: r}, len(r), api.OK
		}
		return api.Token{Kind: api.TkName, Text: r}, len(r), api.OK
	case digitsForm.MatchString(s):
		d := digitsForm.FindString(s)
		if len(d) > 1 && d[0] == '0' {
			return api.Token{}, 0, api.ErrSyntax
		}
		// What is too great for Atoi is too great for an integer, too.
		n, e := strconv.Atoi(d)
		if e != nil || n > greatestInt {
			return api.Token{}, 0, api.ErrRange
		}
		return api.Token{Kind: api.TkInt, Int: n}, len(d), api.OK
	case strings.HasPrefix(s, `"`):
		return wantedString(s)
	case strings.HasPrefix(s, "@"):
		r, err := run(s[1:])
		if err == api.OK && r == "" {
			err = api.ErrSyntax
		}
		if err != api.OK {
			return api.Token{}, 0, err
		}
		return api.Token{Kind: api.TkHost, Text: r}, 1 + len(r), api.OK
	case symbolForm.MatchString(s):
		y := symbolForm.FindString(s)
		return api.Token{Kind: api.TkSymbol, Text: y}, len(y), api.OK
	}
	return api.Token{}, 0, api.ErrSyntax
}

func wantedString(s string) (t api.Token, n int, err api.Errno) {
	text, at := "", 1
	for contentForm.MatchString(s[at:]) {
		c := contentForm.FindString(s[at:])
		at += len(c)
		text += c[len(c)-1:]
		if len(text) > longestString {
			return api.Token{}, 0, api.ErrLimit
		}
	}
	if at == len(s) {
		return api.Token{}, 0, api.ErrSyntax
	}
	if s[at] != '"' {
		return api.Token{}, at, api.ErrSyntax
	}
	return api.Token{Kind: api.TkStr, Text: text}, at + 1, api.OK
}

// wantedTokens returns what Tokens has to return.
func wantedTokens(s string) (l []api.Token, at int, err api.Errno) {
	if len(s) > longestSource {
		return nil, 0, api.ErrLimit
	}
	for {
		at += len(ignoredForm.FindString(s[at:]))
		if at == len(s) {
			return l, 0, api.OK
		}
		if len(l) == mostTokens {
			return nil, at, api.ErrLimit
		}
		t, n, err := wantedToken(s[at:])
		if err != api.OK {
			return nil, at + n, err
		}
		t.At = at
		l = append(l, t)
		at += n
	}
}

// withoutAt returns the tokens at the offset 0.
func withoutAt(l []api.Token) []api.Token {
	l = slices.Clone(l)
	for i := range l {
		l[i].At = 0
	}
	return l
}

// checkTokens checks Tokens, and what P7.5 and P7.6 say about its result.
func checkTokens(t *testing.T, s string) {
	t.Helper()
	want, wantAt, wantErr := wantedTokens(s)
	got, at, err := Tokens(s)
	if !slices.Equal(got, want) || at != wantAt || err != wantErr {
		t.Errorf("%.200q: %.200v, %d, %d", s, got, at, err)
	}
	for i, k := range got {
		if i > 0 && k.At <= got[i-1].At {
			t.Errorf("%.200q: %v behind %v", s, k, got[i-1])
		}
		if first := firstByte(k); k.At < 0 || k.At >= len(s) || s[k.At] != first {
			t.Errorf("%.200q: %v does not begin with %q", s, k, first)
		}
	}
	if err != api.OK {
		return
	}
	joined, err := Join(got)
	if err != api.OK {
		// Spaces between all tokens may need more bytes than s has.
		if err != api.ErrLimit || joined != "" || len(s) <= longestSource/2 {
			t.Errorf("%.200q: %.200q, %d", s, joined, err)
		}
		return
	}
	checkJoined(t, got, joined)
}

func firstByte(k api.Token) byte {
	switch k.Kind {
	case api.TkInt:
		return strconv.Itoa(k.Int)[0]
	case api.TkStr:
		return '"'
	case api.TkHost:
		return '@'
	}
	return k.Text[0]
}

// checkJoined checks that the tokens of joined are those of l, each at its text.
func checkJoined(t *testing.T, l []api.Token, joined string) {
	t.Helper()
	got, at, err := Tokens(joined)
	if !slices.Equal(withoutAt(got), withoutAt(l)) || at != 0 || err != api.OK {
		t.Errorf("%.200q: %.200v, %d, %d", joined, got, at, err)
		return
	}
	place := 0
	for _, k := range got {
		text, err := Text(k)
		if k.At != place || err != api.OK || !strings.HasPrefix(joined[place:], text) {
			t.Errorf("%.200q: %v is not at %d", joined, k, place)
			return
		}
		place += len(text) + 1
	}
	if place != len(joined)+1 && len(got) > 0 || len(got) == 0 && joined != "" {
		t.Errorf("%.200q: %.200v", joined, got)
	}
}

// texts returns the strings of up to most of the parts.
func texts(most int, parts ...string) []string {
	l := []string{""}
	from := 0
	for range most {
		end := len(l)
		for ; from < end; from++ {
			for _, part := range parts {
				l = append(l, l[from]+part)
			}
		}
	}
	return l
}

func aName(s string) api.Token   { return api.Token{Kind: api.TkName, Text: s} }
func aWord(s string) api.Token   { return api.Token{Kind: api.TkWord, Text: s} }
func anInt(n int) api.Token      { return api.Token{Kind: api.TkInt, Int: n} }
func aStr(s string) api.Token    { return api.Token{Kind: api.TkStr, Text: s} }
func aSymbol(s string) api.Token { return api.Token{Kind: api.TkSymbol, Text: s} }
func aHost(s string) api.Token   { return api.Token{Kind: api.TkHost, Text: s} }

// placed returns k at the offset.
func placed(offset int, k api.Token) api.Token {
	k.At = offset
	return k
}

// P7.1, P7.6
func TestTokens(t *testing.T) {
	for s, want := range map[string][]api.Token{
		"let a1=12; // x": {placed(0, aWord("let")), placed(4, aName("a1")), placed(6, aSymbol("=")), placed(7, anInt(12)), placed(9, aSymbol(";"))},
		"a <= @get":       {placed(0, aName("a")), placed(2, aSymbol("<=")), placed(5, aHost("get"))},
		"12ab":            {placed(0, anInt(12)), placed(2, aName("ab"))},
		// Blanks and comments, in which any byte may be.
		"": nil, " ": nil, " \t\n": nil, "//": nil, "// x": nil, "// x\n": nil, "//\n//\n": nil, "///": nil, "// A\x00\xff\ré \" ! @": nil, "// // \n\t// \n": nil,
		"// x\na":        {placed(5, aName("a"))},
		"a//\nb":         {placed(0, aName("a")), placed(4, aName("b"))},
		"a// b\n\t c":    {placed(0, aName("a")), placed(8, aName("c"))},
		"if//\nx":        {placed(0, aWord("if")), placed(5, aName("x"))},
		"1// 2":          {placed(0, anInt(1))},
		"a / b":          {placed(0, aName("a")), placed(2, aSymbol("/")), placed(4, aName("b"))},
		"a/ /b":          {placed(0, aName("a")), placed(1, aSymbol("/")), placed(3, aSymbol("/")), placed(4, aName("b"))},
		"a/":             {placed(0, aName("a")), placed(1, aSymbol("/"))},
		"a/\n/b":         {placed(0, aName("a")), placed(1, aSymbol("/")), placed(3, aSymbol("/")), placed(4, aName("b"))},
		"a///b":          {placed(0, aName("a"))},
		`"//" a`:         {placed(0, aStr("//")), placed(5, aName("a"))},
		"// \"\na // \"": {placed(5, aName("a"))},
		// Names, keywords and integers.
		"_":              {placed(0, aName("_"))},
		"_1_":            {placed(0, aName("_1_"))},
		"z9a_0":          {placed(0, aName("z9a_0"))},
		"lets func1 _if": {placed(0, aName("lets")), placed(5, aName("func1")), placed(11, aName("_if"))},
		"iflet":          {placed(0, aName("iflet"))},
		"if1 1if":        {placed(0, aName("if1")), placed(4, anInt(1)), placed(5, aWord("if"))},
		"12_3":           {placed(0, anInt(12)), placed(2, aName("_3"))},
		"0x10":           {placed(0, anInt(0)), placed(1, aName("x10"))},
		"0 0":            {placed(0, anInt(0)), placed(2, anInt(0))},
		"-0-7":           {placed(0, aSymbol("-")), placed(1, anInt(0)), placed(2, aSymbol("-")), placed(3, anInt(7))},
		"1000000000000":  {placed(0, anInt(1000000000000))},
		" 999999999999x": {placed(1, anInt(999999999999)), placed(13, aName("x"))},
		// The longest symbol that fits.
		"===":     {placed(0, aSymbol("==")), placed(2, aSymbol("="))},
		"====":    {placed(0, aSymbol("==")), placed(2, aSymbol("=="))},
		"=!=":     {placed(0, aSymbol("=")), placed(1, aSymbol("!="))},
		"!==":     {placed(0, aSymbol("!=")), placed(2, aSymbol("="))},
		"<==>>=":  {placed(0, aSymbol("<=")), placed(2, aSymbol("=")), placed(3, aSymbol(">")), placed(4, aSymbol(">="))},
		"= =< =":  {placed(0, aSymbol("=")), placed(2, aSymbol("=")), placed(3, aSymbol("<")), placed(5, aSymbol("="))},
		"=<":      {placed(0, aSymbol("=")), placed(1, aSymbol("<"))},
		"(){}[]":  {placed(0, aSymbol("(")), placed(1, aSymbol(")")), placed(2, aSymbol("{")), placed(3, aSymbol("}")), placed(4, aSymbol("[")), placed(5, aSymbol("]"))},
		",;:+-*%": {placed(0, aSymbol(",")), placed(1, aSymbol(";")), placed(2, aSymbol(":")), placed(3, aSymbol("+")), placed(4, aSymbol("-")), placed(5, aSymbol("*")), placed(6, aSymbol("%"))},
		// Host operations, whose run may be a keyword.
		"@if":      {placed(0, aHost("if"))},
		"@get@put": {placed(0, aHost("get")), placed(4, aHost("put"))},
		"a@_9(":    {placed(0, aName("a")), placed(1, aHost("_9")), placed(4, aSymbol("("))},
		// Strings.
		`""`:                   {placed(0, aStr(""))},
		`"a""b"`:               {placed(0, aStr("a")), placed(3, aStr("b"))},
		`a"b"1"c"@d`:           {placed(0, aName("a")), placed(1, aStr("b")), placed(4, anInt(1)), placed(5, aStr("c")), placed(8, aHost("d"))},
		`"\"" "\\" "\\\"n" ""`: {placed(0, aStr(`"`)), placed(5, aStr(`\`)), placed(10, aStr(`\"n`)), placed(18, aStr(""))},
		`" !#[]~AZ{"`:          {placed(0, aStr(" !#[]~AZ{"))},
	} {
		l, at, err := Tokens(s)
		if !slices.Equal(l, want) || at != 0 || err != api.OK {
			t.Errorf("%q: %v, %d, %d", s, l, at, err)
		}
		checkTokens(t, s)
	}
}

// failure is an error and its offset.
type failure struct {
	at  int
	err api.Errno
}

// P7.1: the errors and their offsets; the first one counts.
func TestTokensErrors(t *testing.T) {
	for s, want := range map[string]failure{
		"!x": {0, api.ErrSyntax}, "07": {0, api.ErrSyntax}, "1000000000001": {0, api.ErrRange},
		// Bytes that begin no token.
		"!": {0, api.ErrSyntax}, "a !": {2, api.ErrSyntax}, "! =": {0, api.ErrSyntax}, "!!=": {0, api.ErrSyntax}, "=!": {1, api.ErrSyntax}, "==!": {2, api.ErrSyntax}, "A": {0, api.ErrSyntax}, "aB": {1, api.ErrSyntax}, "Z": {0, api.ErrSyntax}, "ifX": {2, api.ErrSyntax}, "a.b": {1, api.ErrSyntax}, "1.0": {1, api.ErrSyntax}, "a&b": {1, api.ErrSyntax}, "|": {0, api.ErrSyntax}, "'a'": {0, api.ErrSyntax}, "`": {0, api.ErrSyntax}, "\\": {0, api.ErrSyntax}, "#": {0, api.ErrSyntax}, "a\r\n": {1, api.ErrSyntax}, "\v": {0, api.ErrSyntax}, "\f": {0, api.ErrSyntax}, "\x00": {0, api.ErrSyntax}, "\x7f": {0, api.ErrSyntax}, "é": {0, api.ErrSyntax}, "aé": {1, api.ErrSyntax}, " \xff": {1, api.ErrSyntax}, "\u00a0": {0, api.ErrSyntax}, "\u0661": {0, api.ErrSyntax}, "// x\n!": {5, api.ErrSyntax},
		// Integers; the leading zero comes first.
		"00": {0, api.ErrSyntax}, "a 01": {2, api.ErrSyntax}, "0_0 00": {4, api.ErrSyntax}, "-01": {1, api.ErrSyntax}, "007x": {0, api.ErrSyntax}, "01000000000001": {0, api.ErrSyntax}, "-1000000000001": {1, api.ErrRange}, "9999999999999a": {0, api.ErrRange}, "x=9223372036854775808;": {2, api.ErrRange}, "18446744073709551616": {0, api.ErrRange}, "18446744073709551617": {0, api.ErrRange}, strings.Repeat("9", 4000): {0, api.ErrRange}, strings.Repeat("0", 4000): {0, api.ErrSyntax}, "01 !": {0, api.ErrSyntax}, "! 01": {0, api.ErrSyntax}, "1000000000001 01": {0, api.ErrRange}, "01 1000000000001": {0, api.ErrSyntax},
		// Host operations.
		"@": {0, api.ErrSyntax}, "@ a": {0, api.ErrSyntax}, "@@a": {0, api.ErrSyntax}, "@1": {0, api.ErrSyntax}, "@1a": {0, api.ErrSyntax}, "@A": {0, api.ErrSyntax}, "a @\"a\"": {2, api.ErrSyntax}, "@//\na": {0, api.ErrSyntax}, "@a@": {2, api.ErrSyntax}, "@aB": {2, api.ErrSyntax}, "@é": {0, api.ErrSyntax},
		// Strings: at the end of the text, at a byte, at a backslash.
		`"`: {0, api.ErrSyntax}, ` "a`: {1, api.ErrSyntax}, `"a"b"`: {4, api.ErrSyntax}, `a"`: {1, api.ErrSyntax}, `"\"`: {0, api.ErrSyntax}, `"\\\"`: {0, api.ErrSyntax}, `"// `: {0, api.ErrSyntax},
		`"\`: {1, api.ErrSyntax}, `"ab\`: {3, api.ErrSyntax}, `"\\\`: {3, api.ErrSyntax}, `"\n"`: {1, api.ErrSyntax}, ` "a\/"`: {3, api.ErrSyntax}, `"\ "`: {1, api.ErrSyntax}, `"\u0041"`: {1, api.ErrSyntax}, "\"\\\n\"": {1, api.ErrSyntax}, "\"\\\xff": {1, api.ErrSyntax}, `"\\\a"`: {3, api.ErrSyntax}, "\"\\é\"": {1, api.ErrSyntax},
		"\"\n\"": {1, api.ErrSyntax}, " \"ab\t\"": {4, api.ErrSyntax}, "\"\x1f": {1, api.ErrSyntax}, "\"\x7f\"": {1, api.ErrSyntax}, "\"a\x00": {2, api.ErrSyntax}, "\"é\"": {1, api.ErrSyntax}, "\"a\xff\"": {2, api.ErrSyntax}, "\"\\\"\n": {3, api.ErrSyntax}, "\"a\n\\": {2, api.ErrSyntax}, "\"a\\\n": {2, api.ErrSyntax},
	} {
		l, at, err := Tokens(s)
		if l != nil || at != want.at || err != want.err {
			t.Errorf("%.80q: %v, %d, %d", s, l, at, err)
		}
		checkTokens(t, s)
	}
}

// P7.1: the lengths of texts, runs and strings, at their limits.
func TestTokensLimits(t *testing.T) {
	long := strings.Repeat("n", longestName)
	digits := "_" + strings.Repeat("1", longestName-1)
	full := `"` + strings.Repeat("s", longestString)
	escaped := `"` + strings.Repeat(`\"`, longestString)
	for i, c := range []struct {
		s    string
		want failure
	}{
		{strings.Repeat(" ", 4000), failure{0, api.OK}}, {strings.Repeat(" ", 4001), failure{0, api.ErrLimit}}, {"// " + strings.Repeat("x", 3997), failure{0, api.OK}}, {"// " + strings.Repeat("x", 3998), failure{0, api.ErrLimit}}, {strings.Repeat(" ", 3999) + "a", failure{0, api.OK}}, {strings.Repeat(" ", 4000) + "a", failure{0, api.ErrLimit}},
		// The length comes first.
		{strings.Repeat("!", 4000), failure{0, api.ErrSyntax}}, {strings.Repeat("!", 4001), failure{0, api.ErrLimit}}, {strings.Repeat(" ", 3999) + "!", failure{3999, api.ErrSyntax}}, {" " + strings.Repeat("!", 4000), failure{0, api.ErrLimit}}, {" 01" + strings.Repeat(" ", 3998), failure{0, api.ErrLimit}}, {strings.Repeat("x ", 1<<20), failure{0, api.ErrLimit}},
		{long, failure{0, api.OK}}, {long + "n", failure{0, api.ErrLimit}}, {" " + long + "9", failure{1, api.ErrLimit}}, {digits, failure{0, api.OK}}, {digits + "_", failure{0, api.ErrLimit}}, {long + " " + long, failure{0, api.OK}}, {long + "N", failure{24, api.ErrSyntax}}, {long + "nN", failure{0, api.ErrLimit}}, {long + "n!", failure{0, api.ErrLimit}}, {strings.Repeat("a", 4000), failure{0, api.ErrLimit}}, {strings.Repeat("1", 12) + long, failure{0, api.OK}}, {strings.Repeat("1", 12) + long + "1", failure{12, api.ErrLimit}}, {"// " + long + "n", failure{0, api.OK}}, {`"` + long + `n"`, failure{0, api.OK}}, {"return" + strings.Repeat("n", 19), failure{0, api.ErrLimit}},
		{"@" + long, failure{0, api.OK}}, {"@" + long + "n", failure{0, api.ErrLimit}}, {" @" + digits, failure{0, api.OK}}, {" @" + digits + "1", failure{1, api.ErrLimit}}, {"@" + long + "N", failure{25, api.ErrSyntax}}, {"@" + long + "@" + long + "n", failure{25, api.ErrLimit}},
		{full + `"`, failure{0, api.OK}}, {full + `s"`, failure{0, api.ErrLimit}}, {" " + full + `s"`, failure{1, api.ErrLimit}}, {escaped + `"`, failure{0, api.OK}}, {escaped + `\\"`, failure{0, api.ErrLimit}}, {escaped + `s"`, failure{0, api.ErrLimit}}, {full + `\""`, failure{0, api.ErrLimit}},
		// A byte is examined before it is counted, and the bytes behind the first one too many are not examined.
		{full, failure{0, api.ErrSyntax}}, {full + "s", failure{0, api.ErrLimit}}, {"  " + full, failure{2, api.ErrSyntax}}, {full + "\n", failure{201, api.ErrSyntax}}, {full + "s\n", failure{0, api.ErrLimit}}, {full + "\xff\"", failure{201, api.ErrSyntax}}, {full + `\`, failure{201, api.ErrSyntax}}, {full + `\n"`, failure{201, api.ErrSyntax}}, {full + `s\n"`, failure{0, api.ErrLimit}}, {full + `\"` + "\n", failure{0, api.ErrLimit}}, {escaped + "\n", failure{401, api.ErrSyntax}}, {escaped + `\n`, failure{401, api.ErrSyntax}}, {escaped + `\\` + "\n", failure{0, api.ErrLimit}}, {escaped, failure{0, api.ErrSyntax}}, {`"` + strings.Repeat("s", 3999), failure{0, api.ErrLimit}}, {`"` + strings.Repeat(`\`, 3999), failure{0, api.ErrLimit}}, {full + `" "` + "\n", failure{204, api.ErrSyntax}},
	} {
		l, at, err := Tokens(c.s)
		if at != c.want.at || err != c.want.err || err != api.OK && l != nil {
			t.Errorf("%d: %.80q: %.80v, %d, %d", i, c.s, l, at, err)
		}
		checkTokens(t, c.s)
	}
}

// P7.1: what may and may not follow the last token that is permitted.
func TestTokensMost(t *testing.T) {
	for _, token := range []string{":", "a ", "1 ", `""`, "@a", "if ", "<= ", "(", "%\n\t"} {
		s := strings.Repeat(token, mostTokens)
		if l, at, err := Tokens(s); len(l) != mostTokens || at != 0 || err != api.OK {
			t.Errorf("%q: %d, %d, %d", token, len(l), at, err)
		}
		for _, end := range []string{" ", "\n\t ", "// x", " // ! \xff\"", "//\n//\n "} {
			if l, at, err := Tokens(s + end); len(l) != mostTokens || at != 0 || err != api.OK {
				t.Errorf("%q, %q: %d, %d, %d", token, end, len(l), at, err)
			}
			checkTokens(t, s+end)
		}
		for _, blanks := range []string{"", " ", "\n\t ", "// x\n", " // !\n// \xff\n\t"} {
			for _, next := range []string{"=", "!", "A", "\x00", "\r", "/", `"`, `"a"`, "@", "(", "b", "1", "01", "1000000000001", strings.Repeat("n", 25), "\xff", "/ /"} {
				// What continues the last token belongs to it.
				if blanks == "" && strings.HasSuffix(token, "a") {
					next = "(" + next
				}
				all := s + blanks + next
				if l, at, err := Tokens(all); l != nil || at != len(s+blanks) || err != api.ErrLimit {
					t.Errorf("%q, %q, %q: %d, %d, %d", token, blanks, next, len(l), at, err)
				}
				checkTokens(t, all)
			}
		}
		// The first error counts, also if it is in the last token.
		short := strings.Repeat(token, mostTokens-1)
		if l, at, err := Tokens(short + "! ="); l != nil || at != len(short) || err != api.ErrSyntax {
			t.Errorf("%q: %d, %d, %d", token, len(l), at, err)
		}
	}
}

// P7.1, P7.5, P7.6: all short texts over the characters that matter.
func TestTokensAll(t *testing.T) {
	for _, s := range texts(4, "a", "z", "_", "0", "1", "9", `"`, `\`, "@", "/", "=", "!", "<", "-", " ", "\n", "A", "\xff") {
		checkTokens(t, s)
	}
	for _, s := range texts(6, "a", "1", "0", "_", "@", `"`, "/", " ") {
		checkTokens(t, s)
	}
	for _, s := range texts(7, `"`, `\`, "a", " ", "\n") {
		checkTokens(t, s)
	}
	for _, s := range texts(6, "=", "!", "<", ">", "/", "+", "\n") {
		checkTokens(t, s)
	}
	for _, s := range texts(4, "if", "let", "not", "func", "x", "7", "@or", `"s\""`, "==", "// c\n", "\t", ";", "1000000000001", "{") {
		checkTokens(t, s)
	}
}

// P7.1, P7.5, P7.6: texts in which every byte is another one, missing, or preceded by one.
func TestTokensChanged(t *testing.T) {
	for _, s := range []string{"let a1=12; // x\n", `func f(e){@put("n\"\\",10+e["b"]);return not e!=0;}`, " a<=b==c // ! \"\n>=_9%100000000000 "} {
		checkTokens(t, s)
		for place := range len(s) + 1 {
			checkTokens(t, s[:place])
			checkTokens(t, s[place:])
			for b := range 256 {
				c := string([]byte{byte(b)})
				checkTokens(t, s[:place]+c+s[place:])
				if place < len(s) {
					checkTokens(t, s[:place]+c+s[place+1:])
				}
			}
		}
	}
}

// P7.1: a result shares no memory with another one.
func TestTokensNew(t *testing.T) {
	a, _, _ := Tokens("let a = 1;")
	b, _, _ := Tokens("let a = 1;")
	clear(a)
	if c, _, _ := Tokens("let a = 1;"); !slices.Equal(b, c) || b[0] != aWord("let") {
		t.Error(b, c)
	}
}

// candidates are texts of tokens, contents of strings, and texts that are similar to them.
func candidates() []string {
	l := slices.Concat(keywords, symbols, []string{
		"", "a", "z", "_", "a1", "_1", "__", "a_b_c", "x9z", "1", "1a", "0", "A", "aB", "a b", " a", "a ", "a\n", "a//", "//", "// a", "a;", "a-b", "a.b", "é", "aé", "\xff", "a\xff", "@", "@a", "@if", "@1", "a@", `"`, `""`, `"a"`, `a"b`, `\`, `\\`, `\"`, `a\`, `\n`, "\n", "\t", "\r", "\x00", "\x1f", " ", "~", "\x7f", "`", "'", "[]", "()", "!", "&", "&&", "||", "|", "=>", "=<", "===", "= =", "! =", "==a", "<>", "<<", "++", "--", "-1", "+1", "01", "1000000000000", "1000000000001", ".", "?", "#", "$", "^",
		"ifs", "iff", "If", "IF", "if ", " if", "if(", "nul", "nulls", "elseif", "else if", "tru", "True", "orr", "no", "for", "in", "break", "var", "int", "undefined", "nil",
	})
	for _, part := range []string{"n", "_", "1", "_1", `"`, `\`, " ", "~", "é", "\xff", "\x7f", "\n", "(", "=", "if"} {
		for _, n := range []int{22, 23, 24, 25, 26, 100, 199, 200, 201, 400, 4000, 4001} {
			repeated := strings.Repeat(part, n)
			l = append(l, repeated, "a"+repeated[:n-1], repeated[:n-1]+"a")
		}
	}
	for b := range 256 {
		c := string([]byte{byte(b)})
		l = append(l, c, c+"a", "a"+c, "a"+c+"a", c+c, c+"=", "="+c)
	}
	return append(l, strings.Repeat("a", 1<<20), strings.Repeat(`"`, 1<<20), strings.Repeat(" ", 1<<20))
}

var (
	wholeRun    = regexp.MustCompile(`\A[a-z_][a-z0-9_]{0,23}\z`)
	wholeString = regexp.MustCompile(`\A[ -~]*\z`)
	toEscape    = regexp.MustCompile(`["\\]`)
)

// wantedText returns what Text has to return.
func wantedText(k api.Token) (string, api.Errno) {
	isWord := slices.Contains(keywords, k.Text)
	switch {
	case k.Kind == api.TkName && wholeRun.MatchString(k.Text) && !isWord && k.Int == 0:
		return k.Text, api.OK
	case k.Kind == api.TkWord && isWord && k.Int == 0:
		return k.Text, api.OK
	case k.Kind == api.TkInt && k.Text == "" && 0 <= k.Int && k.Int <= greatestInt:
		return strconv.Itoa(k.Int), api.OK
	case k.Kind == api.TkStr && wholeString.MatchString(k.Text) && len(k.Text) <= longestString && k.Int == 0:
		return `"` + toEscape.ReplaceAllString(k.Text, `\$0`) + `"`, api.OK
	case k.Kind == api.TkSymbol && slices.Contains(symbols, k.Text) && k.Int == 0:
		return k.Text, api.OK
	case k.Kind == api.TkHost && wholeRun.MatchString(k.Text) && k.Int == 0:
		return "@" + k.Text, api.OK
	}
	return "", api.ErrSyntax
}

// P7.2
func TestText(t *testing.T) {
	long := strings.Repeat("n", longestName)
	full := strings.Repeat(`"`, longestString)
	for i, c := range []struct {
		k    api.Token
		want string
	}{
		{aStr(`a"b`), `"a\"b"`}, {aStr(""), `""`}, {aStr("a"), `"a"`}, {aStr(`\`), `"\\"`}, {aStr(`\"`), `"\\\""`}, {aStr(`"\`), `"\"\\"`}, {aStr(" ~//@if"), `" ~//@if"`}, {aStr("\\n"), `"\\n"`}, {aStr(full), `"` + strings.Repeat(`\"`, longestString) + `"`}, {aStr(strings.Repeat(" ", 200)), `"` + strings.Repeat(" ", 200) + `"`}, {aStr("if"), `"if"`}, {aStr("1"), `"1"`},
		{aName("a"), "a"}, {aName("_"), "_"}, {aName("_9"), "_9"}, {aName("a1_b"), "a1_b"}, {aName(long), long}, {aName("lets"), "lets"},
		{aWord("func"), "func"}, {aWord("let"), "let"}, {aWord("if"), "if"}, {aWord("else"), "else"}, {aWord("while"), "while"}, {aWord("return"), "return"}, {aWord("and"), "and"}, {aWord("or"), "or"}, {aWord("not"), "not"}, {aWord("null"), "null"}, {aWord("true"), "true"}, {aWord("false"), "false"},
		{anInt(0), "0"}, {anInt(7), "7"}, {anInt(120), "120"}, {anInt(999999999999), "999999999999"}, {anInt(1000000000000), "1000000000000"},
		{aSymbol("("), "("}, {aSymbol("=="), "=="}, {aSymbol("!="), "!="}, {aSymbol("/"), "/"}, {aSymbol("%"), "%"},
		{aHost("get"), "@get"}, {aHost("if"), "@if"}, {aHost("_"), "@_"}, {aHost(long), "@" + long},
	} {
		// The offset does not count.
		for _, offset := range []int{0, 1, 3999, -1, math.MaxInt, math.MinInt} {
			if got, err := Text(placed(offset, c.k)); got != c.want || err != api.OK {
				t.Errorf("%d: %d: %.80q, %d", i, offset, got, err)
			}
		}
	}
}

// P7.2
func TestTextErrors(t *testing.T) {
	for i, k := range []api.Token{
		{}, {Text: "a"}, {Kind: api.NoToken, Text: "if"}, {Kind: 7}, {Kind: 7, Text: "a"}, {Kind: -1, Text: "a"}, {Kind: math.MaxInt, Text: "a"}, {Kind: math.MinInt, Int: 1},
		aName(""), aName("if"), aName("true"), aName("A"), aName("1"), aName("1a"), aName("a-b"), aName("a b"), aName(" a"), aName("a "), aName("a\n"), aName("a//"), aName("//"), aName("="), aName("@a"), aName(`"a"`), aName("é"), aName(strings.Repeat("n", 25)), aName(strings.Repeat("n", 5000)), {Kind: api.TkName, Text: "a", Int: 1}, {Kind: api.TkName, Text: "a", Int: -1},
		aWord(""), aWord("a"), aWord("If"), aWord("if "), aWord(" if"), aWord("if else"), aWord("if//"), aWord("iff"), aWord("="), aWord("@if"), {Kind: api.TkWord, Text: "if", Int: 1},
		anInt(-1), anInt(-1000000000000), anInt(1000000000001), anInt(math.MaxInt), anInt(math.MinInt), {Kind: api.TkInt, Text: "1"}, {Kind: api.TkInt, Text: "1", Int: 1}, {Kind: api.TkInt, Text: " ", Int: 1},
		aStr("\n"), aStr("\x1f"), aStr("\x7f"), aStr("a\x00"), aStr("é"), aStr("\xff"), aStr(strings.Repeat("s", 201)), aStr(strings.Repeat(`"`, 201)), aStr(strings.Repeat(`\`, 2500)), {Kind: api.TkStr, Text: "a", Int: 1}, {Kind: api.TkStr, Int: -1},
		aSymbol(""), aSymbol("!"), aSymbol("//"), aSymbol("==="), aSymbol("()"), aSymbol("= "), aSymbol(" ="), aSymbol("=//"), aSymbol("a"), aSymbol("if"), aSymbol("1"), aSymbol("@"), aSymbol(`"`), aSymbol("&"), {Kind: api.TkSymbol, Text: "=", Int: 1},
		aHost(""), aHost("1"), aHost("1a"), aHost("A"), aHost("@a"), aHost(" a"), aHost("a "), aHost("a b"), aHost("a-b"), aHost("a//"), aHost("é"), aHost(strings.Repeat("n", 25)), {Kind: api.TkHost, Text: "get", Int: 1},
	} {
		if got, err := Text(k); got != "" || err != api.ErrSyntax {
			t.Errorf("%d: %.80v: %.80q, %d", i, k, got, err)
		}
	}
}

// P7.2: every kind with every text and integer; the text of a token is read as that token alone.
func TestTextAll(t *testing.T) {
	ints := []int{0, 1, -1, 9, 10, 12345, greatestInt - 1, greatestInt, greatestInt + 1, -greatestInt, math.MaxInt, math.MinInt}
	for _, text := range candidates() {
		for kind := api.TokenKind(-1); kind <= api.TkHost+2; kind++ {
			for i, n := range ints {
				if i > 2 && text != "" {
					break
				}
				k := api.Token{Kind: kind, Text: text, Int: n, At: i}
				want, wantErr := wantedText(k)
				got, err := Text(k)
				if got != want || err != wantErr {
					t.Errorf("%.80v: %.80q, %d", k, got, err)
				}
				if err != api.OK {
					continue
				}
				k.At = 0
				if l, _, err := Tokens(got); len(l) != 1 || l[0] != k || err != api.OK {
					t.Errorf("%.80v: %.80q: %.80v, %d", k, got, l, err)
				}
			}
		}
	}
}

// P7.3
func TestJoin(t *testing.T) {
	for _, c := range []struct {
		l    []api.Token
		want string
	}{
		{nil, ""}, {[]api.Token{}, ""}, {[]api.Token{aName("a")}, "a"}, {[]api.Token{placed(7, aName("a")), placed(3, aSymbol("<=")), placed(-5, aHost("get"))}, "a <= @get"}, {[]api.Token{anInt(12), aName("ab")}, "12 ab"}, {[]api.Token{aSymbol("/"), aSymbol("/"), aName("x")}, "/ / x"}, {[]api.Token{aSymbol("="), aSymbol("=")}, "= ="}, {[]api.Token{aStr(`a"b`), aStr(" "), aStr("")}, `"a\"b" " " ""`}, {[]api.Token{anInt(0), anInt(0), aSymbol("-"), anInt(1)}, "0 0 - 1"},
		{[]api.Token{aWord("let"), aName("a1"), aSymbol("="), anInt(12), aSymbol(";")}, "let a1 = 12 ;"},
	} {
		before := slices.Clone(c.l)
		got, err := Join(c.l)
		if got != c.want || err != api.OK {
			t.Errorf("%v: %q, %d", c.l, got, err)
		}
		if !slices.Equal(c.l, before) {
			t.Errorf("%v is now %v", before, c.l)
		}
		checkJoined(t, c.l, got)
	}
}

// P7.3: the limits, and which error comes first.
func TestJoinErrors(t *testing.T) {
	many := func(n int, k api.Token) []api.Token { return slices.Repeat([]api.Token{k}, n) }
	bad := []api.Token{aName("if")}
	long := aStr(strings.Repeat(`"`, longestString)) // 402 bytes, with the space 403
	for i, c := range []struct {
		l    []api.Token
		want api.Errno
	}{
		{many(1000, aName("a")), api.OK}, {many(1001, aName("a")), api.ErrLimit}, {many(1000, aName("ab")), api.OK}, {many(1000, aName("abc")), api.OK}, {many(1000, aName("abcd")), api.ErrLimit}, {many(800, aName("abcd")), api.OK}, {many(801, aName("abcd")), api.ErrLimit},
		// 4000 and 4001 bytes.
		{append(many(9, long), aStr(strings.Repeat("s", 200)), aStr(strings.Repeat("s", 168))), api.OK}, {append(many(9, long), aStr(strings.Repeat("s", 200)), aStr(strings.Repeat("s", 169))), api.ErrLimit}, {append(many(1000-1, aName("abc")), aName("abcd")), api.OK}, {append(many(1000-1, aName("abc")), aName("abcde")), api.ErrLimit},
		{bad, api.ErrSyntax}, {append(many(999, aName("a")), bad...), api.ErrSyntax}, {slices.Concat(bad, many(999, aName("a"))), api.ErrSyntax}, {[]api.Token{aName("a"), {}, aName("a")}, api.ErrSyntax}, {[]api.Token{anInt(-1)}, api.ErrSyntax}, {[]api.Token{aStr(strings.Repeat("s", 201))}, api.ErrSyntax},
		// The number of tokens, their errors, the length.
		{append(many(1000, aName("a")), bad...), api.ErrLimit}, {slices.Concat(bad, many(1000, aName("a"))), api.ErrLimit}, {append(many(999, long), bad...), api.ErrSyntax}, {slices.Concat(bad, many(999, long)), api.ErrSyntax}, {many(1000, long), api.ErrLimit}, {many(100000, api.Token{}), api.ErrLimit},
	} {
		got, err := Join(c.l)
		if err != c.want || (err != api.OK) != (got == "") {
			t.Errorf("%d: %.80q, %d", i, got, err)
		}
		if err == api.OK {
			checkJoined(t, c.l, got)
		}
	}
	if got, _ := Join(append(many(999, aName("abc")), aName("abcd"))); len(got) != longestSource {
		t.Error(len(got))
	}
}

// P7.5: all pairs and triples of tokens that could run into one another, and longer lists.
func TestJoined(t *testing.T) {
	l := []api.Token{aName("a"), aName("_1"), aName(strings.Repeat("n", 24)), anInt(0), anInt(12), anInt(greatestInt), aStr(""), aStr(`"`), aStr(`\`), aStr("// "), aStr(strings.Repeat(`\`, 200)), aHost("a"), aHost("if"), aHost("_" + strings.Repeat("1", 23))}
	for _, s := range keywords {
		l = append(l, aWord(s))
	}
	for _, s := range symbols {
		l = append(l, aSymbol(s))
	}
	check := func(l ...api.Token) {
		joined, err := Join(l)
		if err != api.OK {
			t.Errorf("%v: %d", l, err)
		}
		checkJoined(t, l, joined)
	}
	for _, a := range l {
		check(a)
		for _, b := range l {
			check(a, b)
			for _, c := range l {
				check(a, b, c)
			}
		}
	}
	random := rand.New(rand.NewSource(7))
	for range 2000 {
		some := make([]api.Token, random.Intn(40))
		for i := range some {
			some[i] = placed(random.Intn(100), l[random.Intn(len(l))])
		}
		if joined, err := Join(some); err == api.OK {
			checkTokens(t, joined)
			checkTokens(t, strings.ReplaceAll(joined, " ", ""))
			checkJoined(t, some, joined)
		} else if joined != "" || err != api.ErrLimit {
			t.Errorf("%v: %q, %d", some, joined, err)
		}
	}
}

// P7.4
func TestKeywordSymbol(t *testing.T) {
	if len(keywords) != 12 || len(symbols) != 21 {
		t.Error(len(keywords), len(symbols))
	}
	l := slices.Concat(candidates(), texts(3, strings.Split("(){}[],;:=!<>+-*/%&|a ", "")...))
	for _, s := range keywords {
		for place := range len(s) {
			l = append(l, s[:place], s[place:], s[:place]+s[place+1:], s[:place]+strings.ToUpper(s[place:]), s[:place]+"_"+s[place:])
		}
		l = append(l, s+" ", s+"s", "@"+s, s+s)
	}
	for _, s := range l {
		if got, want := Keyword(s), slices.Contains(keywords, s); got != want {
			t.Errorf("keyword %.80q: %t", s, got)
		}
		if got, want := Symbol(s), slices.Contains(symbols, s); got != want {
			t.Errorf("symbol %.80q: %t", s, got)
		}
	}
}
