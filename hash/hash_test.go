package hash

import (
	"hash/crc32"
	"hash/fnv"
	"math"
	"slices"
	"strconv"
	"strings"
	"testing"

	"faas/api"
)

const greatestInt = 1000000000000

// texts are strings of many lengths, with all bytes, and with digits and colons, which chain texts contain too.
func texts() []string {
	l := []string{"", "a", "b", "foobar", "123456789", "hello, world", ":", "::", "0", "0:", "1", "1:", "1:a", "1:a0:", "0:1:a", "12:", "héllo", "世界", "\x00", "\x00\x00", "\xff\xfe", "a\nb", strings.Repeat("a", 9), strings.Repeat("a", 10), strings.Repeat("x", 99), strings.Repeat("x", 100), strings.Repeat("\xff", 1000), strings.Repeat("long ", 5000)}
	all := make([]byte, 256)
	for i := range all {
		all[i] = byte(i)
		l = append(l, string(all[i:i+1]), string(all[:i]))
	}
	return append(l, string(all))
}

// lists are all lists of up to 3 strings that are easily taken for one another if they are joined.
func lists() [][]string {
	parts := []string{"", "a", "aa", ":", "0", "1", "0:", "1:", "1:a", "0:0:", "2:aa", "1:a0:", "a1:", "12345678901"}
	l := [][]string{nil}
	for from := 0; len(l[from]) < 3; from++ {
		for _, part := range parts {
			l = append(l, append(slices.Clone(l[from]), part))
		}
	}
	return l
}

func fnvOf(s string) uint64 {
	h := fnv.New64a()
	h.Write([]byte(s))
	return h.Sum64()
}

func chainText(parts []string) string {
	text := ""
	for _, part := range parts {
		text += strconv.Itoa(len(part)) + ":" + part
	}
	return text
}

// P3.1
func TestSum(t *testing.T) {
	for s, want := range map[string]uint64{"": 0xcbf29ce484222325, "a": 0xaf63dc4c8601ec8c, "b": 0xaf63df4c8601f1a5, "foobar": 0x85944171f73967e8, "\xff": 0xaf64724c8602eb6e} {
		if got := Sum(s); got != want {
			t.Errorf("%q: %x", s, got)
		}
	}
	for _, s := range texts() {
		if got, want := Sum(s), fnvOf(s); got != want {
			t.Errorf("%q: %x, not %x", s, got, want)
		}
	}
}

// P3.1
func TestChain(t *testing.T) {
	for _, c := range []struct {
		parts []string
		text  string
	}{
		{nil, ""}, {[]string{}, ""}, {[]string{""}, "0:"}, {[]string{"a", ""}, "1:a0:"}, {[]string{"", "a"}, "0:1:a"}, {[]string{"a", "bc"}, "1:a2:bc"}, {[]string{"", "", ""}, "0:0:0:"},
		// The length is that in bytes.
		{[]string{"é"}, "2:é"}, {[]string{"世界", "\xff"}, "6:世界1:\xff"},
		{[]string{"123456789"}, "9:123456789"}, {[]string{"1234567890"}, "10:1234567890"},
	} {
		if got := Chain(c.parts); got != Sum(c.text) || got != fnvOf(c.text) {
			t.Errorf("%q: %x", c.parts, got)
		}
	}
	for _, parts := range append(lists(), texts()) {
		if got, want := Chain(parts), fnvOf(chainText(parts)); got != want {
			t.Errorf("%q: %x, not %x", parts, got, want)
		}
	}
}

// P3.1
func TestCrc(t *testing.T) {
	for s, want := range map[string]uint32{"": 0, "a": 0xe8b7be43, "123456789": 0xcbf43926, "\x00": 0xd202ef8d, "\xff": 0xff000000} {
		if got := Crc(s); got != want {
			t.Errorf("%q: %x", s, got)
		}
	}
	for _, s := range texts() {
		if got, want := Crc(s), crc32.ChecksumIEEE([]byte(s)); got != want {
			t.Errorf("%q: %x, not %x", s, got, want)
		}
	}
}

// numbers are the edges of 64 bits, and numbers in whose Hex every digit is at every place.
func numbers() []uint64 {
	l := []uint64{0, 1, 9, 10, 15, 16, 255, 256, 0xdeadbeef, 0x123456789abcdef0, 0xfedcba9876543210, math.MaxInt64, math.MaxInt64 + 1, math.MaxUint64 - 1, math.MaxUint64, fnvStart}
	for place := range 16 {
		for digit := range 16 {
			l = append(l, uint64(digit)<<(4*place), uint64(digit)<<(4*place)|0x0f0f0f0f0f0f0f0f)
		}
	}
	return l
}

// P3.2
func TestHex(t *testing.T) {
	for n, want := range map[uint64]string{0: "0000000000000000", 1: "0000000000000001", 255: "00000000000000ff", 0x123456789abcdef0: "123456789abcdef0", 1 << 63: "8000000000000000", math.MaxUint64: "ffffffffffffffff"} {
		if got := Hex(n); got != want {
			t.Error(n, got)
		}
	}
	for _, n := range numbers() {
		s := ""
		for place := 15; place >= 0; place-- {
			digit := n >> (4 * place) & 15
			s += "0123456789abcdef"[digit : digit+1]
		}
		if got := Hex(n); got != s {
			t.Error(n, got, s)
		}
		if got, err := Unhex(s); got != n || err != api.OK {
			t.Error(s, got, err)
		}
	}
}

// P3.2
func TestUnhexSyntax(t *testing.T) {
	for _, s := range []string{
		"", "0", "ff", "255", "000000000000000", "00000000000000ff0", "000000000000000ff", "0000000000000000000000000000ff", "10000000000000000", "fffffffffffffffff",
		"00000000000000FF", "FFFFFFFFFFFFFFFF", "00000000000000fF", "00000000000000fg", "g000000000000000", "00000000000000f/", "00000000000000f:", "00000000000000f`", "00000000000000f@",
		"0x000000000000ff", "0X000000000000ff", "+0000000000000ff", "-0000000000000ff", "-000000000000001", "+00000000000000ff", "-0000000000000001", "00000000_00000ff", "00000000000000_f", "0000_0000_0000_00ff",
		" 00000000000000f", "00000000000000f ", "00000000000000ff ", " 00000000000000ff", "00000000000000ff\n", "\x0000000000000000ff", "00000000000000f\x00", "00000000000000é", "０000000000000", "0000000 000000ff", "00000000000000.f", "0000000000000p01",
		strings.Repeat("0", 10000), strings.Repeat("f", 10000),
	} {
		if n, err := Unhex(s); n != 0 || err != api.ErrSyntax {
			t.Errorf("%q: %d, %d", s, n, err)
		}
	}
}

// P3.2: every byte at every place is either a digit of the number or an error.
func TestUnhexBytes(t *testing.T) {
	for place := range 16 {
		for b := range 256 {
			text := []byte("0123456789abcdef")
			text[place] = byte(b)
			n, err := Unhex(string(text))
			if strings.IndexByte("0123456789abcdef", byte(b)) < 0 {
				if n != 0 || err != api.ErrSyntax {
					t.Errorf("%q: %d, %d", text, n, err)
				}
				continue
			}
			if Hex(n) != string(text) || err != api.OK {
				t.Errorf("%q: %d, %d", text, n, err)
			}
		}
	}
}

// P3.3
func TestBucket(t *testing.T) {
	for _, n := range []int{1, 2, 3, 7, 8, 10, 64, 100, 1000, 1024, 65536, math.MaxInt32, math.MaxUint32 + 1, greatestInt - 1, greatestInt} {
		for _, key := range texts() {
			want := int(fnvOf(key) % uint64(n))
			if got, err := Bucket(key, n); got != want || err != api.OK {
				t.Errorf("%q, %d: %d, %d", key, n, got, err)
			}
		}
	}
	if got, err := Bucket("any key", 1); got != 0 || err != api.OK {
		t.Error(got, err)
	}
	for _, n := range []int{0, -1, -2, -greatestInt, greatestInt + 1, math.MaxInt, math.MinInt, math.MinInt + 1} {
		for _, key := range []string{"", "a", "key"} {
			if got, err := Bucket(key, n); got != 0 || err != api.ErrRange {
				t.Errorf("%q, %d: %d, %d", key, n, got, err)
			}
		}
	}
}

// named returns n different nodes.
func named(n int) []string {
	nodes := make([]string, n)
	for i := range nodes {
		nodes[i] = "node" + strconv.Itoa(i)
	}
	return nodes
}

// nodeLists are lists of nodes of all allowed lengths, of different nodes and of nodes that occur more than once.
func nodeLists() [][]string {
	l := [][]string{{""}, {"", ""}, {"a", "b"}, {"b", "a"}, {"a", "a"}, {"a", "b", "a", "b"}, {"b", "a", "b", "a"}, {"x", "x", "x", "x", "x"}, {"", "a", "", "b", ""}, {"a", ":", "1:a", "\xff", "é"}}
	for n := 1; n <= 64; n++ {
		nodes := named(n)
		l = append(l, nodes)
		again := slices.Clone(nodes)
		for i := range again {
			again[i] = nodes[i%(n/2+1)]
		}
		l = append(l, again, slices.Repeat([]string{"same"}, n))
	}
	return l
}

func keys() []string {
	l := []string{"", "a", "b", "node0", ":", "1:a", "\xff", "é", strings.Repeat("k", 200)}
	for i := range 40 {
		l = append(l, "key/"+strconv.Itoa(i))
	}
	return l
}

// wantedRanking finds the greatest score that is left, from the first index to the last.
func wantedRanking(key string, nodes []string) []int {
	var ranking []int
	for range nodes {
		best, bestScore := -1, uint64(0)
		for i, node := range nodes {
			score := fnvOf(chainText([]string{node, key}))
			if !slices.Contains(ranking, i) && (best < 0 || score > bestScore) {
				best, bestScore = i, score
			}
		}
		ranking = append(ranking, best)
	}
	return ranking
}

// P3.4 and P3.5
func TestAssignment(t *testing.T) {
	for n, nodes := range nodeLists() {
		before := slices.Clone(nodes)
		for _, key := range keys()[n%5:][:9] {
			want := wantedRanking(key, nodes)
			if got := Ranking(key, nodes); !slices.Equal(got, want) {
				t.Errorf("%q, %q: %v, not %v", key, nodes, got, want)
			}
			if got, err := Rendezvous(key, nodes); got != want[0] || err != api.OK {
				t.Errorf("%q, %q: %d, %d, not %d", key, nodes, got, err, want[0])
			}
		}
		if !slices.Equal(nodes, before) {
			t.Errorf("%q is changed to %q", before, nodes)
		}
	}
}

// P3.4 and P3.5: of equal scores the lowest index comes first, however many nodes have them.
func TestEqualScores(t *testing.T) {
	for n := 1; n <= 64; n++ {
		nodes := slices.Repeat([]string{"same"}, n)
		ranking := Ranking("key", nodes)
		if len(ranking) != n || !slices.IsSorted(ranking) || ranking[0] != 0 {
			t.Error(n, ranking)
		}
		if got, err := Rendezvous("key", nodes); got != 0 || err != api.OK {
			t.Error(n, got, err)
		}
	}
}

// P3.4 and P3.5
func TestNodeErrors(t *testing.T) {
	for _, c := range []struct {
		nodes []string
		err   api.Errno
	}{
		{nil, api.ErrNone}, {[]string{}, api.ErrNone}, {make([]string, 0, 10), api.ErrNone},
		{named(65), api.ErrLimit}, {named(66), api.ErrLimit}, {named(1000), api.ErrLimit}, {make([]string, 65), api.ErrLimit},
	} {
		for _, key := range []string{"", "a", "key"} {
			if got, err := Rendezvous(key, c.nodes); got != 0 || err != c.err {
				t.Error(len(c.nodes), got, err)
			}
			if got := Ranking(key, c.nodes); len(got) != 0 {
				t.Error(len(c.nodes), got)
			}
		}
	}
	if got, err := Rendezvous("key", named(64)); got < 0 || got > 63 || err != api.OK {
		t.Error(got, err)
	}
	if got, err := Rendezvous("key", []string{"only"}); got != 0 || err != api.OK {
		t.Error(got, err)
	}
}

// P3.5: a ranking is the caller's own (R3).
func TestRankingIsNew(t *testing.T) {
	nodes := named(5)
	first := Ranking("key", nodes)
	kept := slices.Clone(first)
	clear(first)
	if second := Ranking("key", nodes); !slices.Equal(second, kept) {
		t.Error(second, kept)
	}
}

// P3.6
func TestMovesOnlyOwn(t *testing.T) {
	for n, nodes := range nodeLists() {
		for _, key := range keys()[n%5:][:9] {
			index, err := Rendezvous(key, nodes)
			if err != api.OK {
				t.Fatal(nodes, err)
			}
			for gone := range nodes {
				if gone == index || len(nodes) == 1 {
					continue
				}
				want := index
				if gone < index {
					want--
				}
				rest := slices.Delete(slices.Clone(nodes), gone, gone+1)
				if got, err := Rendezvous(key, rest); got != want || err != api.OK {
					t.Errorf("%q without %d of %q: %d, %d, not %d", key, gone, nodes, got, err, want)
				}
			}
			if len(nodes) == 64 {
				continue
			}
			for _, added := range []string{"new", "", nodes[0], nodes[index]} {
				got, err := Rendezvous(key, append(slices.Clone(nodes), added))
				if err != api.OK || got != index && got != len(nodes) {
					t.Errorf("%q with %q after %q: %d, %d, not %d", key, added, nodes, got, err, index)
				}
			}
		}
	}
}

// P3.7: the text of a list can be split in only one way, so different lists have different texts, and here also different sums.
func TestChainTextsDiffer(t *testing.T) {
	sums := map[uint64][]string{}
	for _, parts := range lists() {
		sum := Chain(parts)
		if other, found := sums[sum]; found {
			t.Errorf("%q and %q: %x", parts, other, sum)
		}
		sums[sum] = parts
	}
}
