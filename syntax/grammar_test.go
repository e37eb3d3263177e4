package syntax

import (
	"regexp"
	"slices"
	"strings"

	"faas/api"
	"faas/lex"
)

// The grammar, as the chapter says it.
const grammarText = `
program = { func }
func    = "func" NAME "(" [ NAME { "," NAME } ] ")" block
block   = "{" { stmt } "}"
stmt    = "let" NAME "=" expr ";" | NAME "=" expr ";" | "if" expr block [ "else" block ]
        | "while" expr block | "return" expr ";" | expr ";"
expr    = and { "or" and }
and     = not { "and" not }
not     = "not" not | cmp
cmp     = sum [ ( "==" | "!=" | "<" | "<=" | ">" | ">=" ) sum ]
sum     = term { ( "+" | "-" ) term }
term    = unary { ( "*" | "/" | "%" ) unary }
unary   = "-" unary | post
post    = prim { "[" expr "]" }
prim    = INT | STRING | "null" | "true" | "false" | NAME | NAME "(" args ")" | HOST "(" args ")"
        | "[" args "]" | "{" [ STRING ":" expr { "," STRING ":" expr } ] "}" | "(" expr ")"
args    = [ expr { "," expr } ]
`

// grammar has the alternatives of each symbol that is not a terminal. It reads texts by Earley's method, of which it matters here that it stops at the first token with which no text of the grammar continues, whatever the grammar.
type grammar struct {
	rules    map[string][][]string
	nullable map[string]bool
}

func readGrammar() *grammar {
	g := &grammar{rules: map[string][][]string{}, nullable: map[string]bool{}}
	words := regexp.MustCompile(`"[^"]*"|[A-Za-z]+|[={}()|\[\]]`).FindAllString(grammarText, -1)
	for at := 0; at < len(words); {
		end := at + 2
		for end < len(words) && (end+1 == len(words) || words[end+1] != "=") {
			end++
		}
		g.rules[words[at]], _ = g.alternatives(words[at+2 : end])
		at = end
	}
	for changed := true; changed; {
		changed = false
		for name, alternatives := range g.rules {
			for _, a := range alternatives {
				if !g.nullable[name] && !slices.ContainsFunc(a, func(s string) bool { return !g.nullable[s] }) {
					g.nullable[name] = true
					changed = true
				}
			}
		}
	}
	return g
}

// alternatives reads words up to a closing bracket, and returns the remaining ones.
func (g *grammar) alternatives(words []string) ([][]string, []string) {
	l := [][]string{nil}
	for len(words) > 0 {
		word := words[0]
		words = words[1:]
		last := len(l) - 1
		switch word {
		case "|":
			l = append(l, nil)
		case "}", "]", ")":
			return l, words
		case "{", "[", "(":
			var inner [][]string
			inner, words = g.alternatives(words)
			name := "part" + string(rune('0'+len(g.rules)))
			for i := range inner {
				if word == "{" {
					inner[i] = append(inner[i], name)
				}
			}
			if word != "(" {
				inner = append(inner, nil)
			}
			g.rules[name] = inner
			l[last] = append(l[last], name)
		default:
			l[last] = append(l[last], word)
		}
	}
	return l, nil
}

// item is an alternative of a symbol that was read up to the part at dot, from the token origin on.
type item struct {
	name                     string
	alternative, dot, origin int
}

func (g *grammar) next(i item) string {
	parts := g.rules[i.name][i.alternative]
	if i.dot == len(parts) {
		return ""
	}
	return parts[i.dot]
}

func (i item) advanced() item {
	i.dot++
	return i
}

func (g *grammar) start() [][]item {
	var first []item
	for i := range g.rules["program"] {
		first = append(first, item{"program", i, 0, 0})
	}
	return [][]item{g.closed(nil, first)}
}

// read returns the items behind one more token, or false if no program continues with it.
func (g *grammar) read(sets [][]item, terminal string) ([][]item, bool) {
	var l []item
	for _, i := range sets[len(sets)-1] {
		if g.next(i) == terminal {
			l = append(l, i.advanced())
		}
	}
	if len(l) == 0 {
		return nil, false
	}
	return append(slices.Clone(sets), g.closed(sets, l)), true
}

// closed returns l, the items behind the sets, with all that they predict and complete.
func (g *grammar) closed(sets [][]item, l []item) []item {
	seen := map[item]bool{}
	add := func(i item) {
		if !seen[i] {
			seen[i] = true
			l = append(l, i)
		}
	}
	for _, i := range l {
		seen[i] = true
	}
	for at := 0; at < len(l); at++ {
		i := l[at]
		next := g.next(i)
		if next == "" && i.origin < len(sets) {
			for _, j := range sets[i.origin] {
				if g.next(j) == i.name {
					add(j.advanced())
				}
			}
		}
		for a := range g.rules[next] {
			add(item{next, a, 0, len(sets)})
		}
		if g.nullable[next] {
			add(i.advanced())
		}
	}
	return l
}

// isComplete reports whether the tokens that were read are a program.
func (g *grammar) isComplete(sets [][]item) bool {
	return slices.ContainsFunc(sets[len(sets)-1], func(i item) bool {
		return i.name == "program" && i.origin == 0 && g.next(i) == ""
	})
}

func terminalOf(t api.Token) string {
	switch t.Kind {
	case api.TkName:
		return "NAME"
	case api.TkInt:
		return "INT"
	case api.TkStr:
		return "STRING"
	case api.TkHost:
		return "HOST"
	}
	return `"` + t.Text + `"`
}

// keyFault returns the index of the first token that is a key and is not greater than the key before it, or the number of tokens. In braces, a string behind a comma is always a key.
func keyFault(tokens []api.Token) int {
	latest := []*string{nil} // by the brackets around
	for i, t := range tokens {
		last := len(latest) - 1
		switch {
		case t.Kind == api.TkSymbol && strings.Contains("([{", t.Text):
			latest = append(latest, nil)
		case t.Kind == api.TkSymbol && strings.Contains(")]}", t.Text) && last > 0:
			latest = latest[:last]
		case t.Kind == api.TkStr && i > 0 && tokens[i-1].Kind == api.TkSymbol && tokens[i-1].Text == "{":
			latest[last] = &t.Text
		case t.Kind == api.TkStr && i > 0 && tokens[i-1].Kind == api.TkSymbol && tokens[i-1].Text == "," && latest[last] != nil:
			if *latest[last] >= t.Text {
				return i
			}
			latest[last] = &t.Text
		}
	}
	return len(tokens)
}

// wantedOffset returns the offset at which the parser finds s malformed, or -1. The limits are not regarded; lex must accept s.
func (g *grammar) wantedOffset(s string) int {
	tokens, _, _ := lex.Tokens(s)
	sets := g.start()
	fault := keyFault(tokens)
	for i, t := range tokens {
		next, ok := g.read(sets, terminalOf(t))
		if !ok || i == fault {
			return t.At
		}
		sets = next
	}
	if !g.isComplete(sets) {
		return len(s)
	}
	return -1
}
