package value

import (
	"cmp"
	"math"
	"slices"
	"strconv"
	"strings"
	"testing"

	"faas/api"
)

const (
	greatestInt = 1000000000000
	mostCells   = 200
	mostLevels  = 8
	longestStr  = 200
	longestText = 4000
)

// tree is a value as the chapter defines it, apart from its cells.
type tree struct {
	kind  api.Kind
	n     int
	s     string
	keys  []string
	parts []tree
}

// The following functions write cells and trees.

func null() api.Cell             { return api.Cell{Kind: api.Null} }
func boolean(n int) api.Cell     { return api.Cell{Kind: api.Bool, Int: n} }
func integer(n int) api.Cell     { return api.Cell{Kind: api.Int, Int: n} }
func str(s string) api.Cell      { return api.Cell{Kind: api.Str, Str: s} }
func list(n int) api.Cell        { return api.Cell{Kind: api.List, N: n} }
func mapping(n int) api.Cell     { return api.Cell{Kind: api.Map, N: n} }
func leaf(c api.Cell) tree       { return tree{kind: c.Kind, n: c.Int, s: c.Str} }
func listOf(l ...tree) tree      { return tree{kind: api.List, parts: l} }
func pair(k string, v tree) tree { return tree{kind: api.Map, keys: []string{k}, parts: []tree{v}} }

// mapOf returns the map of keys and values in turn.
func mapOf(l ...any) tree {
	t := tree{kind: api.Map}
	for i := 0; i < len(l); i += 2 {
		t.keys = append(t.keys, l[i].(string))
		t.parts = append(t.parts, l[i+1].(tree))
	}
	return t
}

func (t tree) cells() []api.Cell {
	switch t.kind {
	case api.List, api.Map:
		v := []api.Cell{{Kind: t.kind, N: len(t.parts)}}
		for i, part := range t.parts {
			if t.kind == api.Map {
				v = append(v, str(t.keys[i]))
			}
			v = append(v, part.cells()...)
		}
		return v
	}
	return []api.Cell{{Kind: t.kind, Int: t.n, Str: t.s}}
}

func (t tree) text() string {
	var l []string
	for i, part := range t.parts {
		text := part.text()
		if t.kind == api.Map {
			text = quoted(t.keys[i]) + ":" + text
		}
		l = append(l, text)
	}
	switch t.kind {
	case api.Null:
		return "null"
	case api.Bool:
		return strconv.FormatBool(t.n == 1)
	case api.Int:
		return strconv.Itoa(t.n)
	case api.Str:
		return quoted(t.s)
	case api.List:
		return "[" + strings.Join(l, ",") + "]"
	}
	return "{" + strings.Join(l, ",") + "}"
}

func quoted(s string) string {
	return `"` + strings.ReplaceAll(strings.ReplaceAll(s, `\`, `\\`), `"`, `\"`) + `"`
}

func (t tree) levels() int {
	most := 0
	for _, part := range t.parts {
		most = max(most, part.levels())
	}
	return most + 1
}

// any reports whether the condition holds for a part at any level, or for t itself.
func (t tree) any(holds func(t tree) bool) bool {
	return holds(t) || slices.ContainsFunc(t.parts, func(part tree) bool { return part.any(holds) })
}

// order compares two trees as P6.6 says.
func order(a, b tree) int {
	if a.kind != b.kind {
		return cmp.Compare(a.kind, b.kind)
	}
	if a.kind != api.List && a.kind != api.Map {
		return cmp.Or(cmp.Compare(a.n, b.n), cmp.Compare(a.s, b.s))
	}
	for i := range min(len(a.parts), len(b.parts)) {
		if a.kind == api.Map && a.keys[i] != b.keys[i] {
			return cmp.Compare(a.keys[i], b.keys[i])
		}
		if c := order(a.parts[i], b.parts[i]); c != 0 {
			return c
		}
	}
	return cmp.Compare(len(a.parts), len(b.parts))
}

// read returns the tree of the well-formed value that v begins with, and the cells after it.
func read(v []api.Cell) (t tree, rest []api.Cell, ok bool) {
	if len(v) == 0 {
		return tree{}, nil, false
	}
	c, rest := v[0], v[1:]
	switch c.Kind {
	case api.Null:
		return leaf(c), rest, c.Int == 0 && c.Str == "" && c.N == 0
	case api.Bool:
		return leaf(c), rest, (c.Int == 0 || c.Int == 1) && c.Str == "" && c.N == 0
	case api.Int:
		return leaf(c), rest, c.Str == "" && c.N == 0
	case api.Str:
		return leaf(c), rest, c.Int == 0 && c.N == 0 && plain(c.Str)
	case api.List, api.Map:
		if c.Int != 0 || c.Str != "" || c.N < 0 {
			return tree{}, nil, false
		}
		return readParts(c, rest)
	}
	return tree{}, nil, false
}

func readParts(c api.Cell, rest []api.Cell) (t tree, after []api.Cell, ok bool) {
	t.kind = c.Kind
	for i := 0; i < c.N; i++ {
		if c.Kind == api.Map {
			var key tree
			key, rest, ok = read(rest)
			if !ok || key.kind != api.Str || i > 0 && t.keys[i-1] >= key.s {
				return tree{}, nil, false
			}
			t.keys = append(t.keys, key.s)
		}
		var part tree
		part, rest, ok = read(rest)
		if !ok {
			return tree{}, nil, false
		}
		t.parts = append(t.parts, part)
	}
	return t, rest, true
}

func plain(s string) bool {
	for _, b := range []byte(s) {
		if b < ' ' || b > '~' {
			return false
		}
	}
	return true
}

// wanted returns what Check has to return, and the tree of a well-formed value.
func wanted(v []api.Cell) (tree, api.Errno) {
	t, rest, ok := read(v)
	if !ok || len(rest) > 0 {
		return tree{}, api.ErrSyntax
	}
	if t.any(func(t tree) bool { return t.n < -greatestInt || t.n > greatestInt }) {
		return t, api.ErrRange
	}
	isLong := func(s string) bool { return len(s) > longestStr }
	if t.any(func(t tree) bool { return isLong(t.s) || slices.ContainsFunc(t.keys, isLong) }) {
		return t, api.ErrLimit
	}
	if len(v) > mostCells || t.levels() > mostLevels || len(t.text()) > longestText {
		return t, api.ErrLimit
	}
	return t, api.OK
}

// nested returns n lists around the value.
func nested(n int, t tree) tree {
	for range n {
		t = listOf(t)
	}
	return t
}

// nestedMaps returns n maps around the value.
func nestedMaps(n int, t tree) tree {
	for range n {
		t = pair("k", t)
	}
	return t
}

func repeated(n int, t tree) tree {
	return listOf(slices.Repeat([]tree{t}, n)...)
}

// counted returns a map of n pairs.
func counted(n int, value tree) tree {
	t := tree{kind: api.Map}
	for i := range n {
		t.keys = append(t.keys, "k"+strconv.Itoa(1000+i))
		t.parts = append(t.parts, value)
	}
	return t
}

// textOf returns a list of strings whose text has n bytes, at least 4; part is a character, and it may take a backslash.
func textOf(n int, part string) tree {
	t := listOf()
	each := len(quoted(part)) - 2
	// Every string takes its quotes and a comma, the last one a bracket instead.
	for left := n - 1; left > 0; {
		count := min((left-3)/each, longestStr)
		rest := left - 3 - count*each
		if count == longestStr && 0 < rest && rest < 3 {
			count -= 2
			rest += 2 * each
		}
		s := strings.Repeat(part, count)
		if 0 < rest && rest < 3 {
			s += strings.Repeat("x", rest)
			rest = 0
		}
		t.parts = append(t.parts, leaf(str(s)))
		left = rest
	}
	return t
}

func scalars() []tree {
	var l []tree
	for _, n := range []int{-greatestInt, -greatestInt + 1, -12, -10, -9, -1, 0, 1, 2, 9, 10, 12, 100, greatestInt - 1, greatestInt} {
		l = append(l, leaf(integer(n)))
	}
	for _, s := range []string{"", " ", "~", "a", "ab", "b", "B", "aa", "0", "10", "9", `"`, `\`, `\"`, `a"b`, `\\`, `""`, "!", "[]", "{}", "null", "[1,2]", "/", "\\n", "<&>", strings.Repeat("x", longestStr), strings.Repeat("x", longestStr-1), strings.Repeat(`"`, longestStr)} {
		l = append(l, leaf(str(s)))
	}
	return append(l, leaf(null()), leaf(boolean(0)), leaf(boolean(1)))
}

// valid are valid values: small ones of all kinds, such that differ only a little, and such that are at the limits.
func valid() []tree {
	one, two := leaf(integer(1)), leaf(integer(2))
	a, none := leaf(str("a")), leaf(null())
	l := append(scalars(), listOf(), mapOf(), listOf(listOf()), listOf(mapOf()), listOf(listOf(), listOf()), mapOf("a", listOf()), mapOf("a", mapOf()), mapOf("", none), mapOf("", mapOf("", none)))
	small := []tree{none, leaf(boolean(0)), one, two, a, listOf(), listOf(one), mapOf(), mapOf("a", one)}
	for _, x := range small {
		l = append(l, listOf(x, x, x), mapOf("a", x), mapOf("b", x), mapOf("ab", x), mapOf(`"`, x), mapOf(`\`, x), listOf(mapOf("k", x), two), mapOf("k", listOf(x, two)))
		for _, y := range small {
			l = append(l, listOf(x, y), mapOf("a", x, "b", y), mapOf("a", x, "aa", y), mapOf("", x, "~", y), listOf(listOf(x), y), listOf(x, listOf(y, x)))
		}
	}
	l = append(l, mapOf("!", one, `"`, two, "#", one), mapOf("A", one, "Z", one, `\`, two, "a", one), mapOf("a", listOf(one, none), "b", leaf(str("x"))))
	for n := 2; n < mostLevels; n++ {
		l = append(l, nested(n, one), nested(n, listOf()), nestedMaps(n, one), nestedMaps(n, mapOf()), nested(n-1, mapOf("a", one, "b", two)))
	}
	l = append(l, repeated(mostCells-2, one), repeated(mostCells-1, one), repeated(mostCells-1, leaf(integer(-greatestInt))), repeated(mostCells-1, listOf()), counted(98, one), counted(99, one), counted(99, mapOf()))
	for n := longestText - 3; n <= longestText; n++ {
		l = append(l, textOf(n, "x"), textOf(n, `"`), textOf(n, `\`))
	}
	return distinct(l)
}

// distinct returns each tree of l once.
func distinct(l []tree) []tree {
	seen := map[string]bool{}
	return slices.DeleteFunc(l, func(t tree) bool {
		text := t.text()
		repeats := seen[text]
		seen[text] = true
		return repeats
	})
}

// invalid are lists of cells that are no valid values, for each of the reasons.
func invalid() map[api.Errno][][]api.Cell {
	return map[api.Errno][][]api.Cell{
		api.ErrSyntax: {nil, {}, {{}}, {list(2), integer(1)}, {null(), null()}, {mapping(1), integer(1), null()}, {str("\n")}, {boolean(2)}},
		api.ErrRange:  {{integer(greatestInt + 1)}, {integer(-greatestInt - 1)}, {list(1), integer(math.MaxInt)}, {mapping(1), str("a"), integer(math.MinInt)}},
		api.ErrLimit:  {nested(9, leaf(null())).cells(), nestedMaps(8, mapOf()).cells(), repeated(mostCells, listOf()).cells(), counted(100, leaf(null())).cells(), {str(strings.Repeat("x", longestStr+1))}, {mapping(1), str(strings.Repeat("x", longestStr+1)), null()}, textOf(longestText+1, "x").cells()},
	}
}

// lists returns the lists of up to most of the cells.
func lists(most int, cells ...api.Cell) [][]api.Cell {
	l := [][]api.Cell{nil}
	from := 0
	for range most {
		end := len(l)
		for ; from < end; from++ {
			for _, c := range cells {
				l = append(l, append(slices.Clone(l[from]), c))
			}
		}
	}
	return l
}

// brief shortens a list of cells for messages.
func brief(v []api.Cell) []api.Cell {
	return v[:min(len(v), 10)]
}

// unchanged runs the step, and then checks that it has not modified the list.
func unchanged(t *testing.T, v []api.Cell, step func()) {
	t.Helper()
	before := slices.Clone(v)
	step()
	if !slices.Equal(v, before) {
		t.Errorf("%.80v is changed to %.80v", brief(before), brief(v))
	}
}

// P6.1
func TestCheck(t *testing.T) {
	for _, c := range []struct {
		v    []api.Cell
		want api.Errno
	}{
		{nil, api.ErrSyntax}, {[]api.Cell{}, api.ErrSyntax}, {[]api.Cell{{}}, api.ErrSyntax},
		{[]api.Cell{null()}, api.OK}, {[]api.Cell{boolean(0)}, api.OK}, {[]api.Cell{boolean(1)}, api.OK}, {[]api.Cell{integer(0)}, api.OK}, {[]api.Cell{integer(-5)}, api.OK}, {[]api.Cell{str("")}, api.OK}, {[]api.Cell{str(" ~")}, api.OK}, {[]api.Cell{list(0)}, api.OK}, {[]api.Cell{mapping(0)}, api.OK},
		{[]api.Cell{boolean(2)}, api.ErrSyntax}, {[]api.Cell{boolean(-1)}, api.ErrSyntax}, {[]api.Cell{str("\x1f")}, api.ErrSyntax}, {[]api.Cell{str("\x7f")}, api.ErrSyntax}, {[]api.Cell{str("é")}, api.ErrSyntax}, {[]api.Cell{str("a\x00")}, api.ErrSyntax},
		{[]api.Cell{integer(greatestInt)}, api.OK}, {[]api.Cell{integer(greatestInt + 1)}, api.ErrRange}, {[]api.Cell{integer(-greatestInt)}, api.OK}, {[]api.Cell{integer(-greatestInt - 1)}, api.ErrRange}, {[]api.Cell{integer(math.MinInt)}, api.ErrRange}, {[]api.Cell{integer(math.MaxInt)}, api.ErrRange},
		{[]api.Cell{{Kind: api.Int, N: 1}}, api.ErrSyntax},
		{[]api.Cell{list(2), integer(1)}, api.ErrSyntax}, {[]api.Cell{list(2), integer(1), null()}, api.OK}, {[]api.Cell{list(1), integer(1), null()}, api.ErrSyntax}, {[]api.Cell{list(0), null()}, api.ErrSyntax}, {[]api.Cell{null(), list(0)}, api.ErrSyntax}, {[]api.Cell{list(1), list(1), list(0)}, api.OK}, {[]api.Cell{list(1), list(1)}, api.ErrSyntax}, {[]api.Cell{list(-1)}, api.ErrSyntax},
		{[]api.Cell{mapping(1), str("a"), null()}, api.OK}, {[]api.Cell{mapping(1), str("a")}, api.ErrSyntax}, {[]api.Cell{mapping(1)}, api.ErrSyntax}, {[]api.Cell{mapping(1), integer(1), null()}, api.ErrSyntax}, {[]api.Cell{mapping(1), list(0), null()}, api.ErrSyntax}, {[]api.Cell{mapping(2), str("a"), null()}, api.ErrSyntax}, {[]api.Cell{mapping(-1)}, api.ErrSyntax},
		{[]api.Cell{mapping(2), str("a"), null(), str("b"), null()}, api.OK}, {[]api.Cell{mapping(2), str("b"), null(), str("a"), null()}, api.ErrSyntax}, {[]api.Cell{mapping(2), str("a"), null(), str("a"), null()}, api.ErrSyntax}, {[]api.Cell{mapping(2), str("a"), null(), str("aa"), null()}, api.OK}, {[]api.Cell{mapping(2), str("aa"), null(), str("a"), null()}, api.ErrSyntax}, {[]api.Cell{mapping(2), str(""), null(), str("a"), null()}, api.OK}, {[]api.Cell{mapping(2), str(""), null(), str(""), null()}, api.ErrSyntax}, {[]api.Cell{mapping(2), str("B"), null(), str("a"), null()}, api.OK}, {[]api.Cell{mapping(2), str("10"), null(), str("9"), null()}, api.OK},
		// Values need not be in any order, and every map has an order of its own.
		{[]api.Cell{mapping(2), str("a"), str("z"), str("b"), str("y")}, api.OK}, {[]api.Cell{mapping(2), str("m"), mapping(1), str("a"), null(), str("n"), null()}, api.OK}, {[]api.Cell{mapping(2), str("m"), mapping(1), str("z"), null(), str("n"), null()}, api.OK}, {[]api.Cell{mapping(2), str("m"), mapping(1), str("a"), null(), str("b"), null()}, api.ErrSyntax}, {[]api.Cell{list(2), mapping(1), str("b"), null(), mapping(1), str("a"), null()}, api.OK}, {[]api.Cell{list(2), str("b"), str("a")}, api.OK},
		{[]api.Cell{mapping(2), str("a"), list(2), integer(1), null(), str("b"), str("x")}, api.OK},
	} {
		unchanged(t, c.v, func() {
			if got := Check(c.v); got != c.want {
				t.Errorf("%v: %d", c.v, got)
			}
		})
	}
}

// P6.1, and what the other functions of one value do with it: all lists of up to 5 cells over those that matter.
func TestAllCells(t *testing.T) {
	for _, v := range lists(5, null(), boolean(1), integer(greatestInt+1), str(""), str("a"), str("b"), list(0), list(1), list(2), mapping(0), mapping(1), mapping(2)) {
		checkAccess(t, v)
	}
	for _, v := range lists(7, integer(1), str("a"), str("b"), list(2), mapping(2)) {
		checkAccess(t, v)
	}
}

// P6.1: every other field of a cell of every kind.
func TestCheckFields(t *testing.T) {
	for kind := api.Kind(-3); kind <= 10; kind++ {
		for _, n := range []int{0, 1, -1, 2, 7, greatestInt + 1, math.MinInt, math.MaxInt} {
			for _, s := range []string{"", "a", " ", "\n", "é"} {
				for _, count := range []int{0, 1, -1, 2, math.MinInt, math.MaxInt, math.MaxInt/2 + 1} {
					c := api.Cell{Kind: kind, Int: n, Str: s, N: count}
					for _, v := range [][]api.Cell{{c}, {list(1), c}, {list(2), c, null()}, {mapping(1), c, null()}, {mapping(1), str(""), c}, {c, null()}, {c, str("a"), null()}, {c, c, c}} {
						checkAccess(t, v)
					}
				}
			}
		}
	}
	for _, kind := range []api.Kind{math.MinInt, math.MaxInt, 1 << 32, 1<<32 + 1, 257} {
		checkAccess(t, []api.Cell{{Kind: kind}})
	}
}

// P6.1: every byte, in strings and in keys.
func TestCheckBytes(t *testing.T) {
	for b := range 256 {
		want := api.ErrSyntax
		if 32 <= b && b <= 126 {
			want = api.OK
		}
		c := string([]byte{byte(b)})
		for _, s := range []string{c, "a" + c, c + "a", "a" + c + "b"} {
			for _, v := range [][]api.Cell{{str(s)}, {list(2), str(s), null()}, {mapping(1), str(s), null()}, {mapping(1), str(""), str(s)}} {
				if got := Check(v); got != want {
					t.Errorf("%q: %d", s, got)
				}
			}
		}
	}
}

// P6.1: numbers of elements that no list of cells has, among them such whose double is no int.
func TestCheckCounts(t *testing.T) {
	for _, n := range []int{-1, 3, 5, 6, 1000, 1 << 31, 1 << 32, 1<<61 + 1, 1 << 62, 1<<62 + 1, 1<<62 + 2, 1<<63 - 1, -1 << 63, -1<<63 + 1, -1<<62 + 1} {
		for _, kind := range []api.Kind{api.List, api.Map} {
			c := api.Cell{Kind: kind, N: n}
			for _, v := range [][]api.Cell{{c}, {c, str("a"), null()}, {c, str("a"), null(), str("b"), null()}, {list(1), c}, {list(1), c, str("a"), null()}, {mapping(1), str("a"), c, str("a"), null()}, {c, c, c}} {
				if got := Check(v); got != api.ErrSyntax {
					t.Errorf("%v: %d", v, got)
				}
			}
		}
	}
}

// P6.1: each limit is itself permitted.
func TestCheckLimits(t *testing.T) {
	one := leaf(integer(1))
	long, tooLong := strings.Repeat("x", longestStr), strings.Repeat("x", longestStr+1)
	for i, c := range []struct {
		v    tree
		want api.Errno
	}{
		{repeated(mostCells-1, one), api.OK}, {repeated(mostCells, one), api.ErrLimit}, {repeated(mostCells-1, listOf()), api.OK}, {repeated(mostCells, listOf()), api.ErrLimit}, {counted(99, one), api.OK}, {counted(100, one), api.ErrLimit}, {listOf(counted(98, one), one), api.OK}, {listOf(counted(98, one), one, one), api.OK}, {listOf(counted(98, one), one, one, one), api.ErrLimit},
		{nested(7, one), api.OK}, {nested(8, one), api.ErrLimit}, {nested(7, listOf()), api.OK}, {nested(8, listOf()), api.ErrLimit}, {nestedMaps(7, one), api.OK}, {nestedMaps(8, one), api.ErrLimit}, {nestedMaps(7, mapOf()), api.OK}, {nestedMaps(8, mapOf()), api.ErrLimit}, {listOf(nested(6, one), one), api.OK}, {listOf(nested(7, one), one), api.ErrLimit}, {listOf(one, nested(6, one), one), api.OK}, {listOf(one, nested(7, one)), api.ErrLimit}, {repeated(20, nested(6, one)), api.OK},
		{leaf(str(long)), api.OK}, {leaf(str(tooLong)), api.ErrLimit}, {pair(long, one), api.OK}, {pair(tooLong, one), api.ErrLimit}, {pair("a", leaf(str(tooLong))), api.ErrLimit}, {listOf(one, leaf(str(tooLong)), one), api.ErrLimit}, {leaf(str(strings.Repeat(`\`, longestStr))), api.OK},
		{listOf(leaf(integer(greatestInt)), leaf(integer(-greatestInt))), api.OK}, {listOf(one, leaf(integer(greatestInt+1))), api.ErrRange}, {pair("a", leaf(integer(-greatestInt-1))), api.ErrRange}, {nested(7, leaf(integer(math.MinInt))), api.ErrRange},
	} {
		if got := Check(c.v.cells()); got != c.want {
			t.Errorf("%d: %d", i, got)
		}
	}
}

// P6.1: the length of the text, with all that contributes to it.
func TestCheckTextLimit(t *testing.T) {
	long := func(s string) tree { return leaf(str(strings.Repeat(s, longestStr))) }
	// Each of the parts adds the given number of bytes to a text that lacks as many to the limit.
	for _, c := range []struct {
		part  tree
		bytes int
	}{
		{leaf(null()), 4}, {leaf(boolean(1)), 4}, {leaf(boolean(0)), 5}, {leaf(integer(0)), 1}, {leaf(integer(-1)), 2}, {leaf(integer(greatestInt)), 13}, {leaf(integer(-greatestInt)), 14}, {leaf(str("")), 2}, {leaf(str("a")), 3}, {leaf(str(`"`)), 4}, {leaf(str(`\"a`)), 7}, {listOf(), 2}, {mapOf(), 2}, {listOf(leaf(null())), 6}, {listOf(listOf(), mapOf(), listOf()), 10}, {mapOf("a", listOf()), 8}, {mapOf(`"`, listOf(), "a", listOf()), 16}, {mapOf("", mapOf("", mapOf())), 12},
	} {
		for _, around := range []func(t, part tree) tree{
			func(t, part tree) tree { t.parts = append(slices.Clone(t.parts), part); return t },
			func(t, part tree) tree { t.parts = slices.Insert(slices.Clone(t.parts), 0, part); return t },
		} {
			for more := -2; more <= 2; more++ {
				// The part is preceded or followed by a comma.
				v := around(textOf(longestText-c.bytes-1+more, "x"), c.part)
				want := api.OK
				if more > 0 {
					want = api.ErrLimit
				}
				if got := Check(v.cells()); got != want || len(v.text()) != longestText+more {
					t.Errorf("%s, %d: %d", c.part.text(), more, got)
				}
			}
		}
	}
	for n := longestText - 40; n <= longestText+40; n++ {
		for _, part := range []string{"x", `"`, `\`} {
			v := textOf(n, part).cells()
			if _, want := wanted(v); Check(v) != want || (want == api.OK) != (n <= longestText) {
				t.Errorf("%d: %d", n, Check(v))
			}
		}
	}
	for i, c := range []struct {
		v    tree
		want api.Errno
	}{
		// 2 brackets, 19 commas, and 19 strings of 202 and one of 141 bytes; the same with backslashes; 9 and a half strings that consist of characters with backslashes.
		{listOf(append(slices.Repeat([]tree{long("x")}, 19), leaf(str(strings.Repeat("y", 139))))...), api.OK},
		{listOf(append(slices.Repeat([]tree{long("x")}, 19), leaf(str(strings.Repeat("y", 140))))...), api.ErrLimit},
		{listOf(append(slices.Repeat([]tree{long("x")}, 19), leaf(str(strings.Repeat("y", 138)+`"`)))...), api.ErrLimit},
		{listOf(append(slices.Repeat([]tree{long(`"`)}, 9), leaf(str(strings.Repeat(`\`, 184))))...), api.OK},
		{repeated(9, long(`"`)), api.OK}, {repeated(10, long(`"`)), api.ErrLimit}, {repeated(19, long("x")), api.OK}, {repeated(20, long("x")), api.ErrLimit}, {counted(18, long("x")), api.OK}, {counted(19, long("x")), api.ErrLimit},
	} {
		if got := Check(c.v.cells()); got != c.want {
			t.Errorf("%d (%d bytes): %d", i, len(c.v.text()), got)
		}
	}
}

// P6.1: of several errors the one that is named first.
func TestCheckOrder(t *testing.T) {
	tooGreat, tooLong := integer(greatestInt+1), str(strings.Repeat("x", longestStr+1))
	for i, c := range []struct {
		v    []api.Cell
		want api.Errno
	}{
		{[]api.Cell{list(2), tooGreat, tooLong}, api.ErrRange}, {[]api.Cell{list(2), tooLong, tooGreat}, api.ErrRange}, {[]api.Cell{list(3), tooLong, tooGreat}, api.ErrSyntax}, {[]api.Cell{list(3), tooGreat, tooLong, {}}, api.ErrSyntax}, {[]api.Cell{list(1), tooGreat, null()}, api.ErrSyntax}, {[]api.Cell{list(1), tooLong, null()}, api.ErrSyntax},
		{[]api.Cell{mapping(2), str("b"), tooGreat, str("a"), null()}, api.ErrSyntax}, {[]api.Cell{mapping(2), tooLong, tooGreat, str("y"), null()}, api.ErrRange}, {[]api.Cell{mapping(2), tooLong, null(), str("a"), null()}, api.ErrSyntax},
		{[]api.Cell{str(strings.Repeat("\n", longestStr+1))}, api.ErrSyntax}, {[]api.Cell{str(strings.Repeat("x", longestStr) + "\n")}, api.ErrSyntax},
		{append(nested(20, leaf(null())).cells(), null()), api.ErrSyntax}, {nested(20, leaf(tooGreat)).cells(), api.ErrRange}, {repeated(300, leaf(tooGreat)).cells(), api.ErrRange}, {append(repeated(300, leaf(tooGreat)).cells(), null()), api.ErrSyntax}, {repeated(300, leaf(tooGreat)).cells()[:300], api.ErrSyntax},
	} {
		if got := Check(c.v); got != c.want {
			t.Errorf("%d: %d", i, got)
		}
	}
}

// P6.1, R1: many levels and many cells. No function of a value minds them.
func TestGreatLists(t *testing.T) {
	for _, n := range []int{1000, 1 << 13, 1 << 16, 1 << 19} {
		deep := slices.Repeat([]api.Cell{list(1)}, n)
		maps := slices.Repeat([]api.Cell{mapping(1), str("a")}, n)
		wide := append([]api.Cell{list(n)}, slices.Repeat([]api.Cell{integer(5)}, n)...)
		for i, c := range []struct {
			v    []api.Cell
			want api.Errno
		}{
			{deep, api.ErrSyntax}, {append(slices.Clone(deep), null()), api.ErrLimit}, {append(slices.Clone(deep), list(0)), api.ErrLimit}, {append(slices.Clone(deep), integer(greatestInt+1)), api.ErrRange}, {append(slices.Clone(deep), null(), null()), api.ErrSyntax}, {append(slices.Clone(deep), list(n)), api.ErrSyntax},
			{maps, api.ErrSyntax}, {append(slices.Clone(maps), null()), api.ErrLimit}, {append(slices.Clone(maps), mapping(0)), api.ErrLimit}, {append(slices.Clone(maps), null(), null()), api.ErrSyntax},
			{wide, api.ErrLimit}, {wide[:n], api.ErrSyntax}, {append(slices.Clone(wide), null()), api.ErrSyntax}, {slices.Repeat([]api.Cell{null()}, n), api.ErrSyntax}, {slices.Repeat([]api.Cell{mapping(n)}, n), api.ErrSyntax}, {counted(1000, leaf(null())).cells(), api.ErrLimit},
			{[]api.Cell{str(strings.Repeat("x", n))}, api.ErrLimit}, {[]api.Cell{str(strings.Repeat("x", n) + "\n")}, api.ErrSyntax},
		} {
			if got := Check(c.v); got != c.want {
				t.Errorf("%d, %d: %d", n, i, got)
			}
			if n <= 1<<13 {
				checkErrors(t, c.v, c.want)
			}
		}
	}
}

// P6.1, P6.4, P6.5, P6.7, P6.8, P6.9, P6.10: what the functions return for v.
func checkAccess(t *testing.T, v []api.Cell) {
	t.Helper()
	want, err := wanted(v)
	if got := Check(v); got != err {
		t.Errorf("Check of %v: %d", brief(v), got)
	}
	if !Same(v, slices.Clone(v)) || Cmp(v, v) != 0 {
		t.Errorf("%v is not the same as itself", brief(v))
	}
	if err != api.OK {
		checkErrors(t, v, err)
		return
	}
	if got := Depth(v); got != want.levels() {
		t.Errorf("Depth of %v: %d", brief(v), got)
	}
	text, err := Encode(v)
	if text != want.text() || err != api.OK {
		t.Errorf("Encode of %v: %q, %d", brief(v), text, err)
	}
	if got, err := Decode(text); !slices.Equal(got, v) || err != api.OK {
		t.Errorf("Decode of %q: %v, %d", text, brief(got), err)
	}
	checkParts(t, v, want)
}

// P6.7, P6.8
func checkParts(t *testing.T, v []api.Cell, want tree) {
	t.Helper()
	var itemsErr, keysErr api.Errno
	if want.kind != api.List && want.kind != api.Map {
		itemsErr = api.ErrType
	}
	if want.kind != api.Map {
		keysErr = api.ErrType
	}
	items, err := Items(v)
	if err != itemsErr || len(items) != len(want.parts) {
		t.Errorf("Items of %v: %v, %d", brief(v), items, err)
		return
	}
	for i, item := range items {
		if !slices.Equal(item, want.parts[i].cells()) {
			t.Errorf("Items of %v: %v", brief(v), items)
		}
	}
	keys, err := Keys(v)
	if err != keysErr || !slices.Equal(keys, want.keys) {
		t.Errorf("Keys of %v: %q, %d", brief(v), keys, err)
	}
	for _, key := range append(want.keys, "", "a", "b", "aa", "~", "\n", "k\xff") {
		var part []api.Cell
		wantErr := keysErr
		if i := slices.Index(want.keys, key); i >= 0 {
			part = want.parts[i].cells()
		} else if wantErr == api.OK {
			wantErr = api.ErrNone
		}
		if got, err := Get(v, key); !slices.Equal(got, part) || err != wantErr {
			t.Errorf("Get of %v, %q: %v, %d", brief(v), key, brief(got), err)
		}
		if got, err := Path(v, []string{key}); !slices.Equal(got, part) || err != wantErr {
			t.Errorf("Path of %v, %q: %v, %d", brief(v), key, brief(got), err)
		}
	}
	if got, err := Path(v, nil); !slices.Equal(got, v) || err != api.OK {
		t.Errorf("Path of %v: %v, %d", brief(v), brief(got), err)
	}
}

// checkErrors checks that every function returns the error of Check for v.
func checkErrors(t *testing.T, v []api.Cell, want api.Errno) {
	t.Helper()
	x := []api.Cell{null()}
	if Depth(v) != 0 || Cmp(v, x) != 0 || Cmp(x, v) != 0 || Cmp(v, v) != 0 {
		t.Errorf("%v: depth %d, order %d, %d, %d", brief(v), Depth(v), Cmp(v, x), Cmp(x, v), Cmp(v, v))
	}
	items, err1 := Items(v)
	keys, err2 := Keys(v)
	text, err3 := Encode(v)
	if err1 != want || err2 != want || err3 != want || items != nil || keys != nil || text != "" {
		t.Errorf("%v: errors %d, %d, %d", brief(v), err1, err2, err3)
	}
	for _, step := range []func() ([]api.Cell, api.Errno){
		func() ([]api.Cell, api.Errno) { return Get(v, "a") },
		func() ([]api.Cell, api.Errno) { return Path(v, nil) },
		func() ([]api.Cell, api.Errno) { return Path(v, []string{"a", "b"}) },
		func() ([]api.Cell, api.Errno) { return Put(v, "a", x) },
		func() ([]api.Cell, api.Errno) { return Put([]api.Cell{mapping(0)}, "a", v) },
		func() ([]api.Cell, api.Errno) { return List([][]api.Cell{x, v}) },
		func() ([]api.Cell, api.Errno) { return Map([]string{"a", "b"}, [][]api.Cell{x, v}) },
	} {
		if got, err := step(); err != want || got != nil {
			t.Errorf("%v: %v, %d", brief(v), brief(got), err)
		}
	}
}

// P6.1 to P6.10, P6.12
func TestValid(t *testing.T) {
	for _, want := range valid() {
		v := want.cells()
		if _, err := wanted(v); err != api.OK {
			t.Errorf("%.80s is not valid: %d", want.text(), err)
		}
		unchanged(t, v, func() { checkAccess(t, v) })
	}
	for err, l := range invalid() {
		for _, v := range l {
			if _, want := wanted(v); want != err {
				t.Errorf("%v: %d", brief(v), want)
			}
			unchanged(t, v, func() { checkAccess(t, v) })
		}
	}
}

// P6.2
func TestScalars(t *testing.T) {
	if got := Null(); !slices.Equal(got, []api.Cell{{Kind: api.Null}}) {
		t.Errorf("null: %v", got)
	}
	if got := Bool(false); !slices.Equal(got, []api.Cell{{Kind: api.Bool}}) {
		t.Errorf("false: %v", got)
	}
	if got := Bool(true); !slices.Equal(got, []api.Cell{{Kind: api.Bool, Int: 1}}) {
		t.Errorf("true: %v", got)
	}
	for _, n := range []int{0, 1, -1, 7, 1 << 40, greatestInt - 1, greatestInt, greatestInt + 1, -greatestInt + 1, -greatestInt, -greatestInt - 1, math.MaxInt, math.MinInt, math.MinInt + 1} {
		want, wantErr := []api.Cell{{Kind: api.Int, Int: n}}, api.OK
		if n > greatestInt || n < -greatestInt {
			want, wantErr = nil, api.ErrRange
		}
		if got, err := Int(n); !slices.Equal(got, want) || err != wantErr {
			t.Errorf("%d: %v, %d", n, got, err)
		}
	}
	for _, c := range []struct {
		s   string
		err api.Errno
	}{
		{"", api.OK}, {"a", api.OK}, {" ", api.OK}, {"~", api.OK}, {`a"b\c`, api.OK}, {"null", api.OK}, {"\x1f", api.ErrSyntax}, {"\x7f", api.ErrSyntax}, {"\t", api.ErrSyntax}, {"a\nb", api.ErrSyntax}, {"\x00", api.ErrSyntax}, {"é", api.ErrSyntax}, {"\xff", api.ErrSyntax}, {"\x80", api.ErrSyntax},
		{strings.Repeat("x", 199), api.OK}, {strings.Repeat("x", 200), api.OK}, {strings.Repeat("x", 201), api.ErrLimit}, {strings.Repeat(`"`, 200), api.OK}, {strings.Repeat(`\`, 200), api.OK}, {strings.Repeat(`"`, 201), api.ErrLimit}, {strings.Repeat("x", 4000), api.ErrLimit}, {strings.Repeat("x", 1<<20), api.ErrLimit}, {strings.Repeat("x", 1<<20) + "\n", api.ErrSyntax}, {strings.Repeat("x", 200) + "\x7f", api.ErrSyntax}, {strings.Repeat("é", 101), api.ErrSyntax},
	} {
		checkStr(t, c.s, c.err)
	}
	for b := range 256 {
		err := api.ErrSyntax
		if 32 <= b && b <= 126 {
			err = api.OK
		}
		for _, s := range []string{"", "a", strings.Repeat("x", 199)} {
			checkStr(t, s+string([]byte{byte(b)}), err)
			checkStr(t, string([]byte{byte(b)})+s, err)
		}
	}
}

func checkStr(t *testing.T, s string, wantErr api.Errno) {
	t.Helper()
	var want []api.Cell
	if wantErr == api.OK {
		want = []api.Cell{{Kind: api.Str, Str: s}}
	}
	if got, err := Str(s); !slices.Equal(got, want) || err != wantErr {
		t.Errorf("%.80q: %v, %d", s, got, err)
	}
}

// cellsOf returns the cells of the trees.
func cellsOf(l []tree) [][]api.Cell {
	var v [][]api.Cell
	for _, t := range l {
		v = append(v, t.cells())
	}
	return v
}

// P6.3, P6.13
func TestListMap(t *testing.T) {
	one, a := leaf(integer(1)), leaf(str("a"))
	for _, l := range [][]tree{nil, {one}, {one, a}, {a, one}, {listOf()}, {listOf(one), mapOf("a", one)}, slices.Repeat([]tree{one}, 99), slices.Repeat([]tree{one}, 198), slices.Repeat([]tree{one}, 199), slices.Repeat([]tree{one}, 200), slices.Repeat([]tree{one}, 1000), {counted(98, one), a}, {counted(98, one), a, one}, {counted(99, one)}, {repeated(198, one)}, {repeated(199, one)}, {nested(6, one)}, {nested(7, one)}, {nested(6, listOf())}, {nested(7, listOf())}, {textOf(3998, "x")}, {textOf(3999, "x")}, {one, textOf(3996, "x")}, {one, textOf(3997, "x")}, slices.Repeat([]tree{leaf(str(strings.Repeat("x", 200)))}, 19), slices.Repeat([]tree{leaf(str(strings.Repeat("x", 200)))}, 20)} {
		v := listOf(l...)
		checkBuilt(t, v, func() ([]api.Cell, api.Errno) { return List(cellsOf(l)) })
		v = counted(len(l), one)
		v.parts = l
		checkBuilt(t, v, func() ([]api.Cell, api.Errno) { return Map(v.keys, cellsOf(l)) })
	}
	for _, want := range valid() {
		if want.kind == api.List {
			checkBuilt(t, want, func() ([]api.Cell, api.Errno) { return List(cellsOf(want.parts)) })
		}
		if want.kind == api.Map {
			checkBuilt(t, want, func() ([]api.Cell, api.Errno) { return Map(want.keys, cellsOf(want.parts)) })
		}
		checkBuilt(t, listOf(want), func() ([]api.Cell, api.Errno) { return List([][]api.Cell{want.cells()}) })
		checkBuilt(t, mapOf("a", want, "b", want), func() ([]api.Cell, api.Errno) { return Map([]string{"a", "b"}, cellsOf([]tree{want, want})) })
	}
}

// checkBuilt checks a result that has the cells of the tree, or the error of Check of these.
func checkBuilt(t *testing.T, want tree, build func() ([]api.Cell, api.Errno)) {
	t.Helper()
	cells := want.cells()
	_, wantErr := wanted(cells)
	if wantErr != api.OK {
		cells = nil
	}
	if got, err := build(); !slices.Equal(got, cells) || err != wantErr || err == api.OK && Check(got) != api.OK {
		t.Errorf("%.80s: %v, %d", want.text(), brief(got), err)
	}
}

// P6.3: of several errors the first one.
func TestListMapErrors(t *testing.T) {
	ok, syntax, tooGreat, tooLong := []api.Cell{null()}, []api.Cell{null(), null()}, []api.Cell{integer(greatestInt + 1)}, []api.Cell{str(strings.Repeat("x", 201))}
	long := strings.Repeat("x", 201)
	for i, c := range []struct {
		l    [][]api.Cell
		want api.Errno
	}{
		{[][]api.Cell{nil}, api.ErrSyntax}, {[][]api.Cell{ok, nil}, api.ErrSyntax}, {[][]api.Cell{syntax, tooGreat, tooLong}, api.ErrSyntax}, {[][]api.Cell{ok, tooGreat, syntax, tooLong}, api.ErrRange}, {[][]api.Cell{ok, tooLong, tooGreat, syntax}, api.ErrLimit}, {[][]api.Cell{{list(1)}, ok}, api.ErrSyntax}, {[][]api.Cell{{list(0), null()}, ok}, api.ErrSyntax},
		// The values are looked at before their number.
		{append(slices.Repeat([][]api.Cell{ok}, 300), tooGreat), api.ErrRange}, {append(slices.Repeat([][]api.Cell{ok}, 300), syntax), api.ErrSyntax}, {slices.Repeat([][]api.Cell{ok}, 1<<16), api.ErrLimit}, {slices.Repeat([][]api.Cell{tooLong}, 300), api.ErrLimit},
	} {
		if got, err := List(c.l); got != nil || err != c.want {
			t.Errorf("%d: %v, %d", i, brief(got), err)
		}
		keys := make([]string, len(c.l))
		for k := range keys {
			keys[k] = strconv.Itoa(100000 + k)
		}
		if got, err := Map(keys, c.l); got != nil || err != c.want {
			t.Errorf("map %d: %v, %d", i, brief(got), err)
		}
		if got, err := Map(append(keys, "a"), c.l); got != nil || err != api.ErrSyntax {
			t.Errorf("map %d with a key more: %v, %d", i, brief(got), err)
		}
		if got, err := Map(keys[1:], c.l); got != nil || err != api.ErrSyntax {
			t.Errorf("map %d with a key less: %v, %d", i, brief(got), err)
		}
	}
	for i, c := range []struct {
		keys []string
		l    [][]api.Cell
		want api.Errno
	}{
		{nil, nil, api.OK}, {[]string{"a"}, nil, api.ErrSyntax}, {nil, [][]api.Cell{ok}, api.ErrSyntax}, {[]string{"a", "b"}, [][]api.Cell{tooGreat}, api.ErrSyntax}, {[]string{"a"}, [][]api.Cell{tooGreat, ok}, api.ErrSyntax},
		{[]string{"a", "b"}, [][]api.Cell{ok, ok}, api.OK}, {[]string{"b", "a"}, [][]api.Cell{ok, ok}, api.ErrSyntax}, {[]string{"a", "a"}, [][]api.Cell{ok, ok}, api.ErrSyntax}, {[]string{"", "a"}, [][]api.Cell{ok, ok}, api.OK}, {[]string{"a", ""}, [][]api.Cell{ok, ok}, api.ErrSyntax}, {[]string{"a", "ab"}, [][]api.Cell{ok, ok}, api.OK}, {[]string{"ab", "a"}, [][]api.Cell{ok, ok}, api.ErrSyntax},
		{[]string{"\n"}, [][]api.Cell{ok}, api.ErrSyntax}, {[]string{"é"}, [][]api.Cell{ok}, api.ErrSyntax}, {[]string{"a\x7f"}, [][]api.Cell{ok}, api.ErrSyntax}, {[]string{strings.Repeat("x", 200)}, [][]api.Cell{ok}, api.OK}, {[]string{long}, [][]api.Cell{ok}, api.ErrLimit}, {[]string{long + "\n"}, [][]api.Cell{ok}, api.ErrSyntax},
		// An error of a value precedes that of the keys.
		{[]string{"b", "a"}, [][]api.Cell{ok, tooGreat}, api.ErrRange}, {[]string{"b", "a"}, [][]api.Cell{tooLong, tooGreat}, api.ErrLimit}, {[]string{"\n", "a"}, [][]api.Cell{ok, tooLong}, api.ErrLimit}, {[]string{long, "a"}, [][]api.Cell{ok, ok}, api.ErrSyntax}, {[]string{long, "y"}, [][]api.Cell{ok, tooGreat}, api.ErrRange},
		{slices.Repeat([]string{"a"}, 300), slices.Repeat([][]api.Cell{ok}, 300), api.ErrSyntax}, {slices.Repeat([]string{"a"}, 1<<16), slices.Repeat([][]api.Cell{ok}, 1<<16), api.ErrSyntax},
	} {
		if got, err := Map(c.keys, c.l); err != c.want || err != api.OK && got != nil {
			t.Errorf("map %d: %v, %d", i, brief(got), err)
		}
	}
}

// P6.4
func TestDepth(t *testing.T) {
	one := leaf(integer(1))
	for i, c := range []struct {
		v    tree
		want int
	}{
		{leaf(null()), 1}, {one, 1}, {leaf(str("[[]]")), 1}, {listOf(), 1}, {mapOf(), 1}, {listOf(one), 2}, {listOf(listOf()), 2}, {listOf(listOf(one)), 3}, {mapOf("a", one), 2}, {mapOf("a", listOf()), 2}, {mapOf("a", listOf(one)), 3}, {listOf(one, listOf(one), one), 3}, {listOf(listOf(listOf()), one), 3}, {mapOf("a", mapOf("b", one), "c", one), 3}, {mapOf("a", listOf(one, leaf(null())), "b", leaf(str("x"))), 3}, {nested(7, one), 8}, {nested(7, listOf()), 8}, {nested(8, one), 0}, {nested(8, listOf()), 0}, {nestedMaps(7, mapOf()), 8}, {nestedMaps(8, mapOf()), 0}, {leaf(integer(greatestInt + 1)), 0}, {repeated(200, one), 0},
	} {
		if got := Depth(c.v.cells()); got != c.want {
			t.Errorf("%d: %d", i, got)
		}
	}
	if Depth(nil) != 0 || Depth([]api.Cell{list(1)}) != 0 {
		t.Error("lists of cells that are not well-formed have a depth")
	}
}

// P6.5: lists of cells that need not be valid.
func TestSame(t *testing.T) {
	if !Same(nil, nil) || !Same(nil, []api.Cell{}) || !Same([]api.Cell{}, nil) || !Same([]api.Cell{}, []api.Cell{}) {
		t.Error("two empty lists are not the same")
	}
	l := lists(2, api.Cell{}, null(), boolean(0), boolean(1), boolean(2), integer(0), integer(1), integer(math.MaxInt), str(""), str("a"), str("\n"), str("\xff"), list(0), list(1), list(-1), mapping(0), mapping(1), api.Cell{Kind: 9}, api.Cell{Kind: -1, Int: 1, Str: "a", N: 1}, api.Cell{Kind: api.Int, N: 1}, api.Cell{Kind: api.Int, Str: "a"})
	for i, a := range l {
		for j, b := range l {
			if Same(a, b) != (i == j) {
				t.Errorf("%v, %v: %t", a, b, i != j)
			}
		}
	}
	long := slices.Repeat([]api.Cell{integer(3)}, 1<<16)
	if !Same(long, slices.Clone(long)) || Same(long, long[1:]) || Same(long, append(long[1:], null())) {
		t.Error("long lists")
	}
}

// P6.6, P6.14
func TestCmp(t *testing.T) {
	one, two, zero := leaf(integer(1)), leaf(integer(2)), leaf(integer(0))
	a, b := leaf(str("a")), leaf(str("b"))
	// Each of these is before the next one.
	for _, l := range [][]tree{
		{leaf(null()), leaf(boolean(0)), leaf(boolean(1)), leaf(integer(-greatestInt)), leaf(integer(-1)), zero, leaf(integer(greatestInt)), leaf(str("")), a, listOf(), listOf(one), mapOf(), mapOf("a", one)},
		{listOf(), listOf(leaf(null())), listOf(one), listOf(one, zero), listOf(one, two), listOf(one, leaf(integer(3))), listOf(two), listOf(a), listOf(listOf()), listOf(mapOf())},
		{leaf(str("")), leaf(str(" ")), leaf(str("10")), leaf(str("9")), leaf(str("B")), a, leaf(str("aa")), leaf(str("ab")), b, leaf(str("~"))},
		{listOf(leaf(integer(-10))), listOf(leaf(integer(-9))), listOf(leaf(integer(9))), listOf(leaf(integer(10)))},
		// A key counts before its value, and a value before the next key; a map that is a prefix is first.
		{mapOf(), mapOf("", two), mapOf("a", one), mapOf("a", one, "b", one), mapOf("a", one, "b", two), mapOf("a", one, "c", one), mapOf("a", two), mapOf("a", two, "b", one), mapOf("aa", one), mapOf("b", zero)},
		// What is inside decides before what comes after, and before the numbers of elements.
		{listOf(listOf(), two), listOf(listOf(one), one), listOf(listOf(one, one)), listOf(listOf(one, two), zero), listOf(listOf(two))},
		{listOf(mapOf(), two), listOf(mapOf("a", one), one), listOf(mapOf("a", one, "b", one)), listOf(mapOf("a", two), one)},
		{mapOf("a", listOf(), "b", one), mapOf("a", listOf(one)), mapOf("a", listOf(one), "b", one), mapOf("a", listOf(one, one))},
		{repeated(198, one), repeated(199, one), repeated(3, two), nested(7, one), nested(7, two), nested(7, listOf())},
	} {
		for i, x := range l {
			for j, y := range l {
				if got := Cmp(x.cells(), y.cells()); got != cmp.Compare(i, j) {
					t.Errorf("%.80s, %.80s: %d", x.text(), y.text(), got)
				}
			}
		}
	}
}

// P6.6, P6.14: the order of valid values is that of a sorted list.
func TestCmpOrder(t *testing.T) {
	l := valid()
	slices.SortFunc(l, order)
	cells := cellsOf(l)
	for i, a := range cells {
		for j, b := range cells {
			if got := Cmp(a, b); got != cmp.Compare(i, j) {
				t.Errorf("%.80s, %.80s: %d", l[i].text(), l[j].text(), got)
			}
			if Same(a, b) != (i == j) {
				t.Errorf("%.80s, %.80s are the same", l[i].text(), l[j].text())
			}
		}
	}
	for _, wrong := range invalid() {
		for _, a := range wrong {
			for _, b := range slices.Concat(wrong, cells[:20]) {
				if Cmp(a, b) != 0 || Cmp(b, a) != 0 {
					t.Errorf("%v, %v: %d, %d", brief(a), brief(b), Cmp(a, b), Cmp(b, a))
				}
			}
		}
	}
}

// P6.7
func TestItemsKeys(t *testing.T) {
	v := []api.Cell{mapping(2), str("a"), integer(1), str("b"), integer(2)}
	items, err := Items(v)
	if len(items) != 2 || !slices.Equal(items[0], []api.Cell{integer(1)}) || !slices.Equal(items[1], []api.Cell{integer(2)}) || err != api.OK {
		t.Errorf("items %v, %d", items, err)
	}
	keys, err := Keys(v)
	if !slices.Equal(keys, []string{"a", "b"}) || err != api.OK {
		t.Errorf("keys %q, %d", keys, err)
	}
	v = []api.Cell{list(3), list(1), str("x"), mapping(1), str("k"), list(0), null()}
	items, err = Items(v)
	if len(items) != 3 || !slices.Equal(items[0], v[1:3]) || !slices.Equal(items[1], v[3:6]) || !slices.Equal(items[2], v[6:]) || err != api.OK {
		t.Errorf("items %v, %d", items, err)
	}
	if keys, err := Keys(v); keys != nil || err != api.ErrType {
		t.Errorf("keys %q, %d", keys, err)
	}
	for _, c := range []api.Cell{null(), boolean(0), integer(1), str("a")} {
		items, err1 := Items([]api.Cell{c})
		keys, err2 := Keys([]api.Cell{c})
		if items != nil || err1 != api.ErrType || keys != nil || err2 != api.ErrType {
			t.Errorf("%v: %v, %d, %q, %d", c, items, err1, keys, err2)
		}
	}
	for _, c := range []api.Cell{list(0), mapping(0)} {
		if items, err := Items([]api.Cell{c}); len(items) != 0 || err != api.OK {
			t.Errorf("%v: %v, %d", c, items, err)
		}
	}
	if keys, err := Keys([]api.Cell{mapping(0)}); len(keys) != 0 || err != api.OK {
		t.Errorf("%q, %d", keys, err)
	}
}

// P6.7: Items is the inverse of List, and Items and Keys that of Map.
func TestItemsOfAll(t *testing.T) {
	for _, want := range valid() {
		v := want.cells()
		items, err := Items(v)
		if err != api.OK {
			continue
		}
		got, err := List(items)
		if keys, keysErr := Keys(v); keysErr == api.OK {
			got, err = Map(keys, items)
		}
		if !slices.Equal(got, v) || err != api.OK {
			t.Errorf("%.80s: %v, %d", want.text(), brief(got), err)
		}
	}
}

// P6.8
func TestGetPath(t *testing.T) {
	one := leaf(integer(1))
	inner := mapOf("", one, "b", leaf(str("x")), "c", listOf(mapOf("d", one)))
	v := mapOf("", leaf(null()), "a", inner, "b", listOf(one)).cells()
	for _, c := range []struct {
		path []string
		want tree
		err  api.Errno
	}{
		{path: []string{"a"}, want: inner}, {path: []string{""}, want: leaf(null())}, {path: []string{"b"}, want: listOf(one)}, {path: []string{"c"}, err: api.ErrNone}, {path: []string{"A"}, err: api.ErrNone}, {path: []string{"a "}, err: api.ErrNone}, {path: []string{"é"}, err: api.ErrNone}, {path: []string{strings.Repeat("x", 1<<16)}, err: api.ErrNone},
		{path: []string{"a", ""}, want: one}, {path: []string{"a", "b"}, want: leaf(str("x"))}, {path: []string{"a", "c"}, want: inner.parts[2]}, {path: []string{"a", "a"}, err: api.ErrNone}, {path: []string{"a", "d"}, err: api.ErrNone}, {path: []string{"d", "a"}, err: api.ErrNone},
		// Neither a list nor a scalar has keys, also no number is one; what comes first counts.
		{path: []string{"b", "0"}, err: api.ErrType}, {path: []string{"b", ""}, err: api.ErrType}, {path: []string{"", "a"}, err: api.ErrType}, {path: []string{"a", "b", "c"}, err: api.ErrType}, {path: []string{"a", "c", "d"}, err: api.ErrType}, {path: []string{"a", "b", "c", "d", "e"}, err: api.ErrType}, {path: []string{"a", "z", "c"}, err: api.ErrNone}, {path: append([]string{"a"}, make([]string, 1<<16)...), err: api.ErrType},
	} {
		var want []api.Cell
		if c.err == api.OK {
			want = c.want.cells()
		}
		before := slices.Clone(c.path)
		if got, err := Path(v, c.path); !slices.Equal(got, want) || err != c.err || !slices.Equal(c.path, before) {
			t.Errorf("%.80q: %v, %d", c.path, got, err)
		}
		if len(c.path) > 1 {
			continue
		}
		if got, err := Get(v, c.path[0]); !slices.Equal(got, want) || err != c.err {
			t.Errorf("%.80q: %v, %d", c.path, got, err)
		}
	}
	deep := nestedMaps(7, one).cells()
	for n := range 9 {
		got, err := Path(deep, slices.Repeat([]string{"k"}, n))
		if n < 8 && (err != api.OK || !slices.Equal(got, deep[2*n:])) || n == 8 && (err != api.ErrType || got != nil) {
			t.Errorf("%d levels: %v, %d", n, got, err)
		}
	}
}

// P6.8: Get and Path of all values, along all paths that they have, and such that leave them.
func TestPaths(t *testing.T) {
	for _, want := range valid() {
		checkPaths(t, want.cells(), nil, want)
	}
}

func checkPaths(t *testing.T, v []api.Cell, path []string, want tree) {
	t.Helper()
	if got, err := Path(v, path); !slices.Equal(got, want.cells()) || err != api.OK {
		t.Errorf("%v, %q: %v, %d", brief(v), path, brief(got), err)
	}
	wantErr := api.ErrType
	if want.kind == api.Map {
		wantErr = api.ErrNone
	}
	if got, err := Path(v, append(slices.Clone(path), "no key")); got != nil || err != wantErr {
		t.Errorf("%v, %q and no key: %v, %d", brief(v), path, brief(got), err)
	}
	for i, key := range want.keys {
		checkPaths(t, v, append(slices.Clone(path), key), want.parts[i])
	}
}

// put returns the tree of the map with the value for the key, whether the result is valid or not.
func put(v tree, key string, x tree) tree {
	got := tree{kind: api.Map}
	placed := false
	for i, k := range v.keys {
		if k >= key && !placed {
			got.keys, got.parts = append(got.keys, key), append(got.parts, x)
			placed = true
		}
		if k != key {
			got.keys, got.parts = append(got.keys, k), append(got.parts, v.parts[i])
		}
	}
	if !placed {
		got.keys, got.parts = append(got.keys, key), append(got.parts, x)
	}
	return got
}

// P6.9, P6.15
func TestPut(t *testing.T) {
	one, two := leaf(integer(1)), leaf(integer(2))
	for _, c := range []struct {
		v    tree
		key  string
		x    tree
		want tree
	}{
		{mapOf("a", one), "a", two, mapOf("a", two)}, {mapOf(), "a", one, mapOf("a", one)}, {mapOf("a", one), "b", two, mapOf("a", one, "b", two)}, {mapOf("b", one), "a", two, mapOf("a", two, "b", one)}, {mapOf("a", one, "c", one), "b", two, mapOf("a", one, "b", two, "c", one)}, {mapOf("a", one), "", two, mapOf("", two, "a", one)}, {mapOf("a", one), "A", two, mapOf("A", two, "a", one)}, {mapOf("a", one), "aa", two, mapOf("a", one, "aa", two)}, {mapOf("aa", one), "a", two, mapOf("a", two, "aa", one)},
		{mapOf("a", listOf(one, one), "b", one), "a", two, mapOf("a", two, "b", one)}, {mapOf("a", one, "b", one), "a", mapOf("z", one), mapOf("a", mapOf("z", one), "b", one)}, {mapOf("a", one), "a", mapOf("a", one), mapOf("a", mapOf("a", one))}, {mapOf("a", mapOf("b", one)), "b", two, mapOf("a", mapOf("b", one), "b", two)},
	} {
		if got, err := Put(c.v.cells(), c.key, c.x.cells()); !slices.Equal(got, c.want.cells()) || err != api.OK {
			t.Errorf("%s, %q, %s: %v, %d", c.v.text(), c.key, c.x.text(), got, err)
		}
	}
	keys := []string{"", " ", "a", "aa", "ab", "b", "k", "k1000", "k1050", "k1098", "k10985", "~", `"`, `\`, "\x1f", "\x7f", "é", strings.Repeat("x", 200), strings.Repeat("x", 201), strings.Repeat("x", 201) + "\n"}
	values := append(scalars()[:3], leaf(str("x")), leaf(str(`"`)), listOf(), mapOf(), listOf(one), mapOf("a", one), nested(6, one), nested(7, one), nested(6, mapOf()), repeated(100, one), repeated(197, one), repeated(196, one), textOf(3990, "x"), textOf(3992, "x"), textOf(3993, "x"), textOf(3994, "x"), textOf(4000, "x"))
	for i, v := range valid() {
		// Of these many values, every third map is enough, and a few of the other kinds.
		if v.kind == api.Map && i%3 > 0 || v.kind != api.Map && i%20 > 0 {
			continue
		}
		for _, key := range keys {
			for _, x := range values {
				checkPut(t, v, key, x)
			}
		}
	}
}

func checkPut(t *testing.T, v tree, key string, x tree) {
	t.Helper()
	got, err := Put(v.cells(), key, x.cells())
	if v.kind != api.Map {
		if err != api.ErrType || got != nil {
			t.Errorf("%.80s: %v, %d", v.text(), brief(got), err)
		}
		return
	}
	want := put(v, key, x).cells()
	_, wantErr := wanted(want)
	if wantErr != api.OK {
		want = nil
	}
	if !slices.Equal(got, want) || err != wantErr {
		t.Errorf("%.80s, %.80q, %.80s: %v, %d", v.text(), key, x.text(), brief(got), err)
	}
	if err != api.OK {
		return
	}
	// P6.15
	if value, err := Get(got, key); !slices.Equal(value, x.cells()) || err != api.OK {
		t.Errorf("%.80s, %q: %v, %d", v.text(), key, brief(value), err)
	}
	for i, k := range v.keys {
		value, err := Get(got, k)
		if k != key && (!slices.Equal(value, v.parts[i].cells()) || err != api.OK) {
			t.Errorf("%.80s, %q and %q: %v, %d", v.text(), key, k, brief(value), err)
		}
	}
}

// P6.9: the order of the errors, and the limits of the result.
func TestPutErrors(t *testing.T) {
	one := leaf(integer(1)).cells()
	syntax, tooGreat, tooLong := []api.Cell{list(1)}, []api.Cell{integer(greatestInt + 1)}, []api.Cell{str(strings.Repeat("x", 201))}
	m := mapOf("a", leaf(null())).cells()
	for i, c := range []struct {
		v    []api.Cell
		key  string
		x    []api.Cell
		want api.Errno
	}{
		{syntax, "a", tooGreat, api.ErrSyntax}, {tooGreat, "a", syntax, api.ErrRange}, {tooLong, "a", syntax, api.ErrLimit}, {nil, "a", one, api.ErrSyntax}, {m, "a", nil, api.ErrSyntax},
		{one, "a", syntax, api.ErrType}, {[]api.Cell{list(0)}, "\n", tooGreat, api.ErrType}, {[]api.Cell{null()}, "a", one, api.ErrType}, {[]api.Cell{str("a")}, "a", one, api.ErrType},
		{m, "a", syntax, api.ErrSyntax}, {m, "\n", tooGreat, api.ErrRange}, {m, "\n", tooLong, api.ErrLimit}, {m, "\n", one, api.ErrSyntax}, {m, "", one, api.OK}, {m, strings.Repeat("x", 200), one, api.OK}, {m, strings.Repeat("x", 201), one, api.ErrLimit}, {m, strings.Repeat("x", 201) + "\x7f", one, api.ErrSyntax},
		{counted(99, leaf(null())).cells(), "a", one, api.ErrLimit}, {counted(98, leaf(null())).cells(), "a", one, api.OK}, {counted(99, leaf(null())).cells(), "k1000", one, api.OK}, {counted(99, leaf(null())).cells(), "k1000", []api.Cell{list(1), null()}, api.OK}, {counted(99, leaf(null())).cells(), "k1000", []api.Cell{list(2), null(), null()}, api.ErrLimit}, {counted(99, leaf(null())).cells(), "\n", one, api.ErrSyntax},
		{m, "a", nested(6, leaf(null())).cells(), api.OK}, {m, "a", nested(7, leaf(null())).cells(), api.ErrLimit}, {m, "b", nested(7, leaf(null())).cells(), api.ErrLimit}, {mapOf("a", nested(6, listOf())).cells(), "a", one, api.OK},
		{mapOf().cells(), "a", textOf(3994, "x").cells(), api.OK}, {mapOf().cells(), "a", textOf(3995, "x").cells(), api.ErrLimit}, {mapOf().cells(), `"`, textOf(3993, "x").cells(), api.OK}, {mapOf().cells(), `"`, textOf(3994, "x").cells(), api.ErrLimit}, {mapOf("a", textOf(3994, "x")).cells(), "a", one, api.OK}, {mapOf("a", textOf(3994, "x")).cells(), "b", one, api.ErrLimit},
	} {
		if got, err := Put(c.v, c.key, c.x); err != c.want || err != api.OK && got != nil {
			t.Errorf("%d: %v, %d", i, brief(got), err)
		}
	}
}

// scramble overwrites a list of cells, and what lies behind it.
func scramble(v []api.Cell) {
	for i := range v[:cap(v)] {
		v[:cap(v)][i] = api.Cell{Kind: 9, Int: 9, Str: "overwritten", N: 9}
	}
}

// R3: what is done to a result changes neither an argument nor another result.
func TestMemory(t *testing.T) {
	one := leaf(integer(1))
	v := mapOf("a", listOf(one, one), "b", mapOf("c", one), "d", one).cells()
	x := listOf(one, leaf(null())).cells()
	for i, step := range []func() []api.Cell{
		func() []api.Cell { l, _ := List([][]api.Cell{v, x}); return l },
		func() []api.Cell { l, _ := List([][]api.Cell{v}); return l },
		func() []api.Cell { l, _ := Map([]string{"a"}, [][]api.Cell{v}); return l },
		func() []api.Cell { l, _ := Get(v, "a"); return l },
		func() []api.Cell { l, _ := Get(v, "d"); return l },
		func() []api.Cell { l, _ := Path(v, nil); return l },
		func() []api.Cell { l, _ := Path(v, []string{"b", "c"}); return l },
		func() []api.Cell { l, _ := Put(v, "a", x); return l },
		func() []api.Cell { l, _ := Put(v, "c", x); return l },
		func() []api.Cell { l, _ := Items(v); return l[1] },
		func() []api.Cell { l, _ := Decode(`[1,2,3]`); return l },
		func() []api.Cell { return Null() },
		func() []api.Cell { return Bool(true) },
		func() []api.Cell { return Bool(false) },
		func() []api.Cell { l, _ := Int(1); return l },
		func() []api.Cell { l, _ := Str("a"); return l },
	} {
		wide, wideX := append(slices.Clone(v), null()), append(slices.Clone(x), null())
		v, x = wide[:len(v)], wideX[:len(x)]
		beforeV, beforeX := slices.Clone(wide), slices.Clone(wideX)
		first := step()
		before := slices.Clone(first)
		second := step()
		scramble(second)
		if !slices.Equal(first, before) || !slices.Equal(wide, beforeV) || !slices.Equal(wideX, beforeX) {
			t.Errorf("%d: a result shares memory", i)
		}
		scramble(first)
		if !slices.Equal(wide, beforeV) || !slices.Equal(wideX, beforeX) || !slices.Equal(step(), before) {
			t.Errorf("%d: a result shares memory", i)
		}
		last := step()
		scramble(v)
		scramble(x)
		if !slices.Equal(last, before) {
			t.Errorf("%d: an argument is retained", i)
		}
		v, x = slices.Clone(beforeV[:len(beforeV)-1]), slices.Clone(beforeX[:len(beforeX)-1])
	}
}

// R3: the elements of a result of Items are not parts of one list, and the keys and values given to Map and Put stay as they are.
func TestMemoryOfLists(t *testing.T) {
	v := listOf(listOf(), listOf(), listOf()).cells()
	items, _ := Items(v)
	scramble(items[0])
	scramble(items[2])
	if !slices.Equal(items[1], []api.Cell{list(0)}) || !slices.Equal(v, listOf(listOf(), listOf(), listOf()).cells()) {
		t.Errorf("items share memory: %v, %v", items, v)
	}
	keys, l := []string{"a", "b", "z"}, [][]api.Cell{{null()}, {list(0)}, {integer(9)}}
	m, _ := Map(keys[:2], l[:2])
	got, _ := Keys(m)
	_ = append(got, "x")
	got[0] = "x"
	if again, _ := Keys(m); !slices.Equal(keys, []string{"a", "b", "z"}) || !slices.Equal(again, []string{"a", "b"}) || len(l[0]) != 1 || l[0][0] != null() || l[2][0] != integer(9) {
		t.Errorf("keys %q, %q, values %v", keys, again, l)
	}
}
