package code

import (
	"regexp"
	"slices"
	"strconv"
	"strings"
	"testing"

	"faas/api"
	"faas/frame"
)

// The limits and the lists of the chapters that this one refers to.
const (
	mostFuncs  = 16
	mostParams = 8
	mostLocals = 32
	mostCode   = 4000
	mostStack  = 64
	mostString = 200
	greatest   = 1000000000000
	mostDisk   = 262144
)

var (
	opNames   = []string{"", "null", "bool", "int", "str", "load", "store", "pop", "unary", "binary", "index", "list", "map", "jump", "false", "test", "dup", "call", "built", "host", "return"}
	builtins  = map[string]int{"len": 1, "str": 1, "int": 1, "push": 2, "put": 3, "keys": 1, "has": 2, "fail": 1}
	hostOps   = map[string]int{"get": 1, "put": 2, "delete": 1, "send": 2, "timer": 3, "signal": 2, "secret": 1, "fetch": 2, "now": 0, "log": 1}
	unaries   = []string{"-", "not"}
	binaries  = []string{"+", "-", "*", "/", "%", "==", "!=", "<", "<=", ">", ">="}
	keywords  = []string{"func", "let", "if", "else", "while", "return", "and", "or", "not", "null", "true", "false"}
	isNameRun = regexp.MustCompile(`^[a-z_][a-z0-9_]{0,23}$`).MatchString
	isShown   = regexp.MustCompile(`^[ -~]*$`).MatchString
)

func validString(s string) bool {
	return len(s) <= mostString && isShown(s)
}

func within(n, low, high int) bool {
	return low <= n && n <= high
}

// proper reports whether in, an instruction of the function f, is one of the chapter's table.
func proper(c api.Code, f api.CodeFunc, in api.Ins) bool {
	plain := in.S == "" && len(in.Keys) == 0
	switch in.Op {
	case 1, 7, 10, 15, 16, 20:
		return in.A == 0 && plain
	case 2:
		return within(in.A, 0, 1) && plain
	case 3:
		return within(in.A, -greatest, greatest) && plain
	case 4:
		return in.A == 0 && validString(in.S) && len(in.Keys) == 0
	case 5, 6:
		return within(in.A, 0, f.Locals-1) && plain
	case 8:
		return in.A == 0 && slices.Contains(unaries, in.S) && len(in.Keys) == 0
	case 9:
		return in.A == 0 && slices.Contains(binaries, in.S) && len(in.Keys) == 0
	case 11:
		return within(in.A, 0, mostStack) && plain
	case 12:
		sorted := slices.Clone(in.Keys)
		slices.Sort(sorted)
		ascending := slices.Equal(sorted, in.Keys) && len(slices.Compact(sorted)) == len(in.Keys)
		invalid := slices.ContainsFunc(in.Keys, func(s string) bool { return !validString(s) })
		return in.A == len(in.Keys) && len(in.Keys) <= mostStack && in.S == "" && ascending && !invalid
	case 13, 14:
		return within(in.A, f.Entry, f.End-1) && plain
	case 17:
		return within(in.A, 0, len(c.Funcs)-1) && plain
	case 18:
		n, ok := builtins[in.S]
		return ok && n == in.A && len(in.Keys) == 0
	case 19:
		n, ok := hostOps[in.S]
		return ok && n == in.A && len(in.Keys) == 0
	}
	return false
}

// effect returns the numbers of values that a well-formed instruction pops and pushes.
func effect(c api.Code, in api.Ins) (pops, pushes int) {
	switch opNames[in.Op] {
	case "null", "bool", "int", "str", "load":
		return 0, 1
	case "store", "pop", "false", "return":
		return 1, 0
	case "unary", "test":
		return 1, 1
	case "binary", "index":
		return 2, 1
	case "list", "map", "built", "host":
		return in.A, 1
	case "call":
		return c.Funcs[in.A].Params, 1
	case "dup":
		return 1, 2
	}
	return 0, 0 // jump
}

// following returns the successors of the instruction i.
func following(c api.Code, i int) []int {
	switch opNames[c.Ins[i].Op] {
	case "jump":
		return []int{c.Ins[i].A}
	case "return":
		return nil
	case "false":
		return []int{i + 1, c.Ins[i].A}
	}
	return []int{i + 1}
}

// checkedFuncs returns the first error of the functions.
func checkedFuncs(c api.Code) (int, api.Errno) {
	for i, f := range c.Funcs {
		before := 0
		for _, g := range c.Funcs[:i] {
			if g.Name == f.Name {
				return i, api.ErrName
			}
			before = g.End
		}
		switch {
		case !isNameRun(f.Name) || slices.Contains(keywords, f.Name):
			return i, api.ErrName
		case !within(f.Params, 0, mostParams) || !within(f.Locals, f.Params, mostLocals):
			return i, api.ErrRange
		case f.Entry != before || !within(f.End, f.Entry+1, len(c.Ins)):
			return i, api.ErrOrder
		}
	}
	end := 0
	if len(c.Funcs) > 0 {
		end = c.Funcs[len(c.Funcs)-1].End
	}
	if end != len(c.Ins) {
		return len(c.Funcs), api.ErrOrder
	}
	return 0, api.OK
}

// owner returns the function of the instruction i.
func owner(c api.Code, i int) api.CodeFunc {
	return c.Funcs[slices.IndexFunc(c.Funcs, func(f api.CodeFunc) bool { return i < f.End })]
}

// wantedCheck returns what Check has to return, and the depths.
func wantedCheck(c api.Code) (int, api.Errno, []int) {
	if len(c.Funcs) > mostFuncs || len(c.Ins) > mostCode {
		return 0, api.ErrLimit, nil
	}
	if at, err := checkedFuncs(c); err != api.OK {
		return at, err, nil
	}
	for i, in := range c.Ins {
		f := owner(c, i)
		if !proper(c, f, in) {
			return i, api.ErrSyntax, nil
		}
		if i+1 == f.End && in.Op != api.OpReturn && in.Op != api.OpJump {
			return i, api.ErrState, nil
		}
	}
	depths := slices.Repeat([]int{-1}, len(c.Ins))
	for _, f := range c.Funcs {
		if at := determine(c, f, depths); at >= 0 {
			return at, api.ErrStack, nil
		}
	}
	return 0, api.OK, depths
}

// determine finds the depths of f as the chapter says it, word by word: the lowest one that waits is looked for among all.
func determine(c api.Code, f api.CodeFunc, depths []int) int {
	waiting := map[int]bool{f.Entry: true}
	depths[f.Entry] = 0
	for len(waiting) > 0 {
		i := f.Entry
		for !waiting[i] {
			i++
		}
		delete(waiting, i)
		pops, pushes := effect(c, c.Ins[i])
		behind := depths[i] - pops + pushes
		if pops > depths[i] || c.Ins[i].Op == api.OpReturn && depths[i] != 1 || behind > mostStack {
			return i
		}
		for _, s := range following(c, i) {
			if depths[s] < 0 {
				depths[s] = behind
				waiting[s] = true
			} else if depths[s] != behind {
				return s
			}
		}
	}
	return -1
}

func wantedTargets(c api.Code) []int {
	var l []int
	for i := range c.Ins {
		if slices.ContainsFunc(c.Ins, func(in api.Ins) bool { return (in.Op == 13 || in.Op == 14) && in.A == i }) {
			l = append(l, i)
		}
	}
	return l
}

// wantedRecords returns the fields of the records of the text of c.
func wantedRecords(c api.Code) [][]string {
	records := [][]string{{strconv.Itoa(len(c.Funcs)), strconv.Itoa(len(c.Ins))}}
	for _, f := range c.Funcs {
		records = append(records, []string{f.Name, strconv.Itoa(f.Params), strconv.Itoa(f.Locals), strconv.Itoa(f.Entry), strconv.Itoa(f.End)})
	}
	for _, in := range c.Ins {
		records = append(records, []string{strconv.Itoa(int(in.Op)), strconv.Itoa(in.A), in.S})
		for _, key := range in.Keys {
			records = append(records, []string{key})
		}
	}
	return records
}

// textOf returns the text with the records, of any length.
func textOf(records [][]string) string {
	var b strings.Builder
	for _, fields := range records {
		body, _ := frame.Pack(fields)
		sealed, _ := frame.Seal(body)
		b.WriteString(sealed)
	}
	return b.String()
}

func token(s string) string {
	return `"` + strings.NewReplacer(`\`, `\\`, `"`, `\"`).Replace(s) + `"`
}

func wantedFormat(c api.Code) []string {
	var lines []string
	for i, in := range c.Ins {
		if f := owner(c, i); f.Entry == i {
			lines = append(lines, strings.Join([]string{"func", f.Name, strconv.Itoa(f.Params), strconv.Itoa(f.Locals)}, " "))
		}
		line := strconv.Itoa(i) + " " + opNames[in.Op]
		switch in.Op {
		case 2, 3, 5, 6, 11, 12, 13, 14, 17, 18, 19:
			line += " " + strconv.Itoa(in.A)
		}
		switch in.Op {
		case 4:
			line += " " + token(in.S)
		case 8, 9, 18, 19:
			line += " " + in.S
		}
		for _, key := range in.Keys {
			line += " " + token(key)
		}
		lines = append(lines, line)
	}
	return lines
}

func copied(c api.Code) api.Code {
	d := api.Code{Funcs: slices.Clone(c.Funcs), Ins: slices.Clone(c.Ins)}
	for i := range d.Ins {
		d.Ins[i].Keys = slices.Clone(d.Ins[i].Keys)
	}
	return d
}

// equal compares without the functions of the package.
func equal(a, b api.Code) bool {
	return slices.Equal(a.Funcs, b.Funcs) && slices.EqualFunc(a.Ins, b.Ins, func(x, y api.Ins) bool {
		return x.Op == y.Op && x.A == y.A && x.S == y.S && slices.Equal(x.Keys, y.Keys)
	})
}

// checkAll checks every function of the package with c, and returns the error of Check.
func checkAll(t *testing.T, c api.Code) api.Errno {
	t.Helper()
	before := copied(c)
	at, want, depths := wantedCheck(c)
	if i, err := Check(c); i != at || err != want {
		t.Fatalf("%v: %d, %d, not %d, %d", c, i, err, at, want)
	}
	if want == api.OK {
		checkFound(t, c, depths)
		checkWays(t, c, depths)
	} else {
		checkNothing(t, c, want)
	}
	checkFind(t, c)
	if !equal(c, before) {
		t.Fatalf("%v: changed", before)
	}
	return want
}

// checkFound checks the results for a code that passes, and that those of a second call are not changed with the first ones.
func checkFound(t *testing.T, c api.Code, depths []int) {
	t.Helper()
	text := textOf(wantedRecords(c))
	for range 2 {
		found, err := Depths(c)
		if !slices.Equal(found, depths) || err != api.OK {
			t.Fatalf("%v: depths %v, %d", c, found, err)
		}
		targets := Targets(c)
		if !slices.Equal(targets, wantedTargets(c)) {
			t.Fatalf("%v: targets %v", c, targets)
		}
		lines, err := Format(c)
		if !slices.Equal(lines, wantedFormat(c)) || err != api.OK {
			t.Fatalf("%v: %q, %d", c, lines, err)
		}
		clear(found)
		clear(targets)
		clear(lines)
		if len(text) > mostDisk {
			if s, err := Encode(c); s != "" || err != api.ErrLimit {
				t.Fatalf("%d bytes: %d, %d", len(text), len(s), err)
			}
			continue
		}
		if s, err := Encode(c); s != text || err != api.OK {
			t.Fatalf("%v: %q, %d", c, s, err)
		}
		d, err := Decode(text)
		if !equal(d, c) || err != api.OK {
			t.Fatalf("%v: read as %v, %d", c, d, err)
		}
		clear(d.Funcs)
		for _, in := range d.Ins {
			clear(in.Keys)
		}
		clear(d.Ins)
	}
}

// checkNothing checks the results for a code with an error.
func checkNothing(t *testing.T, c api.Code, want api.Errno) {
	t.Helper()
	if depths, err := Depths(c); len(depths) > 0 || err != want {
		t.Fatalf("%v: depths %v, %d, not %d", c, depths, err, want)
	}
	if targets := Targets(c); len(targets) > 0 {
		t.Fatalf("%v: targets %v", c, targets)
	}
	if lines, err := Format(c); len(lines) > 0 || err != want {
		t.Fatalf("%v: %q, %d, not %d", c, lines, err, want)
	}
	if s, err := Encode(c); s != "" || err != want {
		t.Fatalf("%v: %q, %d, not %d", c, s, err, want)
	}
	if text := textOf(wantedRecords(c)); len(text) <= mostDisk {
		if d, err := Decode(text); !equal(d, api.Code{}) || err != api.ErrCorrupt {
			t.Fatalf("%v: read as %v, %d", c, d, err)
		}
	}
}

// checkFind checks Find with the names of the code and others, whether it is correct or not.
func checkFind(t *testing.T, c api.Code) {
	t.Helper()
	names := []string{"", "main", "nix", "f0"}
	for _, f := range c.Funcs {
		names = append(names, f.Name)
	}
	for _, name := range names {
		want := -1
		for i := len(c.Funcs) - 1; i >= 0; i-- {
			if c.Funcs[i].Name == name {
				want = i
			}
		}
		if i := Find(c, name); i != want {
			t.Fatalf("%v: %q at %d, not %d", c, name, i, want)
		}
	}
}

// checkWays checks P11.6: it goes all ways through the functions, with the numbers of values on the stack.
func checkWays(t *testing.T, c api.Code, depths []int) {
	t.Helper()
	reached := slices.Repeat([]int{-1}, len(c.Ins))
	for _, f := range c.Funcs {
		if at, ok := walk(c, f, f.Entry, 0, reached); !ok {
			t.Fatalf("%v: a way is wrong at %d", c, at)
		}
	}
	if !slices.Equal(reached, depths) {
		t.Fatalf("%v: depths %v, not %v", c, depths, reached)
	}
}

// walk goes on from the instruction i with the depth, as far as it has not been there, and returns where it is wrong.
func walk(c api.Code, f api.CodeFunc, i, depth int, reached []int) (int, bool) {
	for {
		if i < f.Entry || i >= f.End || depth < 0 || depth > mostStack || reached[i] >= 0 && reached[i] != depth {
			return i, false
		}
		if reached[i] >= 0 {
			return 0, true
		}
		reached[i] = depth
		pops, pushes := effect(c, c.Ins[i])
		if pops > depth {
			return i, false
		}
		switch c.Ins[i].Op {
		case api.OpReturn:
			return i, depth == 1
		case api.OpFalse:
			if at, ok := walk(c, f, c.Ins[i].A, depth-1, reached); !ok {
				return at, false
			}
			i, depth = i+1, depth-1
		case api.OpJump:
			i = c.Ins[i].A
		default:
			i, depth = i+1, depth-pops+pushes
		}
	}
}
