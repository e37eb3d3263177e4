package lex

import (
	"strings"

	"faas/api"
	"faas/num"
)

// charKind is what a character begins or continues.
type charKind int

const (
	other charKind = iota // begins a symbol, or no token
	blank
	letter
	digit
	quotation
	atSign
)

func kindOf(c rune) charKind {
	switch {
	case c == ' ' || c == '\t' || c == '\n':
		return blank
	case 'a' <= c && c <= 'z' || c == '_':
		return letter
	case '0' <= c && c <= '9':
		return digit
	case c == '"':
		return quotation
	case c == '@':
		return atSign
	}
	return other
}

// ignored returns the number of bytes of the blanks and comments at the beginning of s.
func ignored(s string) int {
	n := 0
	for n < len(s) {
		switch {
		case kindOf(rune(s[n])) == blank:
			n++
		case strings.HasPrefix(s[n:], "//"):
			// Its line feed is a blank.
			comment, _, _ := strings.Cut(s[n:], "\n")
			n += len(comment)
		default:
			return n
		}
	}
	return n
}

// first reads the token at the beginning of s, which is not empty and begins with no blank and no comment. It returns the token and the number of its bytes; with an error, the offset of the error instead of that number. So do the functions for the single kinds of tokens.
func first(s string) (api.Token, int, api.Errno) {
	switch kindOf(rune(s[0])) {
	case letter:
		return word(s)
	case digit:
		return integer(s)
	case quotation:
		return quoted(s)
	case atSign:
		return host(s)
	}
	return symbol(s)
}

// run returns the run at the beginning of s, which is empty if none begins there.
func run(s string) string {
	n := 0
	for n < len(s) {
		kind := kindOf(rune(s[n]))
		if kind != letter && (kind != digit || n == 0) {
			break
		}
		n++
	}
	return s[:n]
}

// word reads a name or a keyword.
func word(s string) (api.Token, int, api.Errno) {
	text := run(s)
	if len(text) > api.MaxName {
		return api.Token{}, 0, api.ErrLimit
	}
	kind := api.TkName
	if Keyword(text) {
		kind = api.TkWord
	}
	return api.Token{Kind: kind, Text: text}, len(text), api.OK
}

func integer(s string) (api.Token, int, api.Errno) {
	n := 0
	for n < len(s) && kindOf(rune(s[n])) == digit {
		n++
	}
	value, err := num.Parse(s[:n])
	if err != api.OK {
		return api.Token{}, 0, err
	}
	return api.Token{Kind: api.TkInt, Int: value}, n, api.OK
}

// quoted reads a string.
func quoted(s string) (api.Token, int, api.Errno) {
	var contents []byte
	for i := 1; i < len(s); i++ {
		c := rune(s[i])
		if c == '"' {
			return api.Token{Kind: api.TkStr, Text: string(contents)}, i + 1, api.OK
		}
		if c < ' ' || c > '~' || c == '\\' && !isEscaped(s[i+1:]) {
			return api.Token{}, i, api.ErrSyntax
		}
		if len(contents) == api.MaxStr {
			return api.Token{}, 0, api.ErrLimit
		}
		if c == '\\' {
			i++
		}
		contents = append(contents, s[i])
	}
	return api.Token{}, 0, api.ErrSyntax
}

// isEscaped reports whether s, which follows a backslash, begins with a character that one may precede.
func isEscaped(s string) bool {
	return strings.HasPrefix(s, `"`) || strings.HasPrefix(s, `\`)
}

// host reads a host operation.
func host(s string) (api.Token, int, api.Errno) {
	text := run(s[1:])
	if text == "" {
		return api.Token{}, 0, api.ErrSyntax
	}
	if len(text) > api.MaxName {
		return api.Token{}, 0, api.ErrLimit
	}
	return api.Token{Kind: api.TkHost, Text: text}, 1 + len(text), api.OK
}

// symbol reads the longest symbol that fits.
func symbol(s string) (api.Token, int, api.Errno) {
	for n := min(2, len(s)); n > 0; n-- {
		if Symbol(s[:n]) {
			return api.Token{Kind: api.TkSymbol, Text: s[:n]}, n, api.OK
		}
	}
	return api.Token{}, 0, api.ErrSyntax
}
