package frame

import (
	"encoding/binary"
	"hash/crc32"
	"slices"
	"strings"
	"testing"

	"faas/api"
)

const (
	greatestField = 4000
	mostFields    = 64
	greatestDisk  = 262144
	greatestBody  = 262136
)

// mixed returns n bytes, among which are all values if n is great enough.
func mixed(n int) string {
	b := make([]byte, n)
	for i := range b {
		b[i] = byte(i + i/256*7)
	}
	return string(b)
}

// records are records at the edges: of no field and of the most, with fields of all lengths that matter, and fields that look like packed forms.
func records() [][]string {
	l := [][]string{nil, {}, {""}, {"", ""}, {"a"}, {"ab", ""}, {"", "ab"}, {"a", "b", "c"}, {"\x00"}, {"\x00\x00"}, {"\x01\x00\x00"}, {"\x02\x00\x01a\x00\x00", "\x00"}, {"é", "世界", "\xff\xfe"}, {"key", "0", `{"a":[1,2]}`, "-12"}}
	for _, n := range []int{1, 2, 127, 128, 254, 255, 256, 257, 511, 512, 3839, 3840, greatestField - 1, greatestField} {
		l = append(l, []string{mixed(n)}, []string{"", mixed(n), "x"}, []string{strings.Repeat("\xff", n), strings.Repeat("\x00", n)})
	}
	for b := range 256 {
		l = append(l, []string{string([]byte{byte(b)})}, slices.Repeat([]string{string([]byte{byte(b)})}, b%(mostFields+1)))
	}
	return append(l, make([]string, mostFields-1), make([]string, mostFields), slices.Repeat([]string{mixed(greatestField)}, mostFields))
}

// packedForm is built from the definition alone.
func packedForm(fields []string) string {
	s := []byte{byte(len(fields))}
	for _, field := range fields {
		s = binary.BigEndian.AppendUint16(s, uint16(len(field)))
		s = append(s, field...)
	}
	return string(s)
}

// P4.1
func TestPack(t *testing.T) {
	for _, c := range []struct {
		fields []string
		want   string
	}{
		{nil, "\x00"}, {[]string{}, "\x00"}, {[]string{""}, "\x01\x00\x00"}, {[]string{"ab", ""}, "\x02\x00\x02ab\x00\x00"}, {[]string{"", "ab"}, "\x02\x00\x00\x00\x02ab"},
		{[]string{"é"}, "\x01\x00\x02é"}, {[]string{"\x00\xff"}, "\x01\x00\x02\x00\xff"},
		{[]string{strings.Repeat("x", 255)}, "\x01\x00\xff" + strings.Repeat("x", 255)},
		{[]string{strings.Repeat("x", 256)}, "\x01\x01\x00" + strings.Repeat("x", 256)},
		{[]string{strings.Repeat("x", 4000)}, "\x01\x0f\xa0" + strings.Repeat("x", 4000)},
		{make([]string, 64), "\x40" + strings.Repeat("\x00", 128)},
	} {
		if got, err := Pack(c.fields); got != c.want || err != api.OK {
			t.Errorf("%.80q: %.80q, %d", c.fields, got, err)
		}
	}
	for _, fields := range records() {
		before := slices.Clone(fields)
		if got, err := Pack(fields); got != packedForm(before) || err != api.OK {
			t.Errorf("%.80q: %.80q, %d", fields, got, err)
		}
		if !slices.Equal(fields, before) {
			t.Errorf("%.80q is changed to %.80q", before, fields)
		}
	}
}

// P4.1
func TestPackLimits(t *testing.T) {
	long := strings.Repeat("x", greatestField+1)
	most := make([]string, mostFields)
	for _, fields := range [][]string{
		{long}, {long, ""}, {"", long}, {"a", "b", long, "c"}, append(most[:mostFields-1:mostFields-1], long), {mixed(65535)}, {mixed(65536)}, {mixed(65537)}, {mixed(1 << 20)},
		make([]string, mostFields+1), append(slices.Clone(most), long), slices.Repeat([]string{"a"}, 255), make([]string, 256), slices.Repeat([]string{"a"}, 257), make([]string, 100000),
	} {
		if got, err := Pack(fields); got != "" || err != api.ErrLimit {
			t.Errorf("%d fields: %.80q, %d", len(fields), got, err)
		}
	}
}

// P4.2
func TestUnpack(t *testing.T) {
	for _, c := range []struct {
		s    string
		want []string
	}{
		{"\x00", nil}, {"\x01\x00\x00", []string{""}}, {"\x02\x00\x02ab\x00\x00", []string{"ab", ""}}, {"\x02\x00\x00\x00\x01a", []string{"", "a"}}, {"\x01\x00\x03\x01\x00\x00", []string{"\x01\x00\x00"}},
		{"\x01\x01\x02" + mixed(258), []string{mixed(258)}}, {"\x01\x0f\xa0" + mixed(4000), []string{mixed(4000)}}, {"\x40" + strings.Repeat("\x00", 128), make([]string, 64)},
	} {
		if got, err := Unpack(c.s); !slices.Equal(got, c.want) || err != api.OK {
			t.Errorf("%.80q: %.80q, %d", c.s, got, err)
		}
	}
}

// P4.2: the first error from the left is returned.
func TestUnpackErrors(t *testing.T) {
	full := strings.Repeat("x", greatestField)
	for _, c := range []struct {
		s   string
		err api.Errno
	}{
		{"", api.ErrTruncated},
		// The number of fields.
		{"\x41", api.ErrCorrupt}, {"\x41" + strings.Repeat("\x00", 130), api.ErrCorrupt}, {"\x41\x00", api.ErrCorrupt}, {"\x80", api.ErrCorrupt}, {"\xff", api.ErrCorrupt}, {"\x40", api.ErrTruncated}, {"\x01", api.ErrTruncated},
		// A length that is incomplete, of the first field and of others.
		{"\x01\x00", api.ErrTruncated}, {"\x01\x0f", api.ErrTruncated}, {"\x01\xff", api.ErrTruncated}, {"\x02\x00\x00", api.ErrTruncated}, {"\x02\x00\x00\x00", api.ErrTruncated}, {"\x02\x00\x01a\xff", api.ErrTruncated}, {"\x40" + strings.Repeat("\x00", 127), api.ErrTruncated}, {"\x40" + strings.Repeat("\x00", 126), api.ErrTruncated},
		// A length that is too great, even if the bytes are missing.
		{"\x01\x0f\xa1", api.ErrCorrupt}, {"\x01\x0f\xa1" + full, api.ErrCorrupt}, {"\x01\x0f\xa1" + full + "x", api.ErrCorrupt}, {"\x01\x10\x00", api.ErrCorrupt}, {"\x01\x80\x00", api.ErrCorrupt}, {"\x01\xff\xff", api.ErrCorrupt}, {"\x01\xff\xff" + mixed(65535), api.ErrCorrupt}, {"\x02\x00\x01a\x0f\xa1", api.ErrCorrupt}, {"\x03\x00\x00\x0f\xa1", api.ErrCorrupt},
		// Bytes that are incomplete.
		{"\x01\x00\x02a", api.ErrTruncated}, {"\x01\x00\x01", api.ErrTruncated}, {"\x01\x0f\xa0", api.ErrTruncated}, {"\x01\x0f\xa0" + full[1:], api.ErrTruncated}, {"\x02\x0f\xa0" + full, api.ErrTruncated}, {"\x02\x00\x01a\x00\x03bc", api.ErrTruncated}, {"\x01\x01\x00" + full[:255], api.ErrTruncated},
		// The second field is not looked at if the bytes of the first one are incomplete.
		{"\x02\x00\x03\xff\xff", api.ErrTruncated}, {"\x02\x00\x02\xff\xff", api.ErrTruncated}, {"\x02\x00\x02\xff\xff\xff\xff", api.ErrCorrupt},
		// Bytes after the last field.
		{"\x00\x07", api.ErrCorrupt}, {"\x00\x00", api.ErrCorrupt}, {"\x00\x01\x00\x00", api.ErrCorrupt}, {"\x01\x00\x00\x00", api.ErrCorrupt}, {"\x01\x00\x01ab", api.ErrCorrupt}, {"\x02\x00\x01a\x00\x01bc", api.ErrCorrupt}, {"\x01\x0f\xa0" + full + "x", api.ErrCorrupt}, {"\x40" + strings.Repeat("\x00", 129), api.ErrCorrupt}, {"\x00" + mixed(1<<20), api.ErrCorrupt},
	} {
		if got, err := Unpack(c.s); len(got) != 0 || err != c.err {
			t.Errorf("%.80q: %.80q, %d, not %d", c.s, got, err, c.err)
		}
	}
}

// wantedUnpack takes the definition word by word from the left.
func wantedUnpack(s string) ([]string, api.Errno) {
	missing := false
	take := func(n int) string {
		missing = missing || n > len(s)
		taken := s[:min(n, len(s))]
		s = s[len(taken):]
		return taken
	}
	count := take(1)
	if missing {
		return nil, api.ErrTruncated
	}
	if count > "\x40" {
		return nil, api.ErrCorrupt
	}
	var fields []string
	for range count[0] {
		length := take(2)
		if missing {
			return nil, api.ErrTruncated
		}
		// Both have two bytes, the high one first, so they are ordered as the numbers are.
		if length > "\x0f\xa0" {
			return nil, api.ErrCorrupt
		}
		fields = append(fields, take(int(binary.BigEndian.Uint16([]byte(length)))))
		if missing {
			return nil, api.ErrTruncated
		}
	}
	if s != "" {
		return nil, api.ErrCorrupt
	}
	return fields, api.OK
}

// P4.2 and P4.5: all strings of up to 6 bytes over those that matter.
func TestUnpackAll(t *testing.T) {
	level := []string{""}
	for length := 0; length <= 6; length++ {
		var next []string
		for _, s := range level {
			want, wantErr := wantedUnpack(s)
			got, err := Unpack(s)
			if err != wantErr || !slices.Equal(got, want) {
				t.Fatalf("%q: %q, %d, not %q, %d", s, got, err, want, wantErr)
			}
			if packed, packErr := Pack(got); err == api.OK && (packed != s || packErr != api.OK) {
				t.Fatalf("%q: %q, %q, %d", s, got, packed, packErr)
			}
			next = append(next, s+"\x00", s+"\x01", s+"\x02", s+"\x0f", s+"\x41", s+"\xa0", s+"\xa1")
		}
		level = next
	}
}

// P4.2: every part of a packed form that ends too early is truncated, and one that goes on is corrupt.
func TestUnpackCut(t *testing.T) {
	for _, fields := range records() {
		packed := packedForm(fields)
		step := 1 + len(packed)/300
		for end := 0; end < len(packed); end += step {
			if got, err := Unpack(packed[:end]); len(got) != 0 || err != api.ErrTruncated {
				t.Fatalf("%d of %.80q: %.80q, %d", end, packed, got, err)
			}
		}
		if got, err := Unpack(packed[:len(packed)-1]); len(got) != 0 || err != api.ErrTruncated {
			t.Fatalf("%.80q without the last byte: %.80q, %d", packed, got, err)
		}
		for _, more := range []string{"\x00", "x", "\x00\x00", packed} {
			if got, err := Unpack(packed + more); len(got) != 0 || err != api.ErrCorrupt {
				t.Fatalf("%.80q and %.80q: %.80q, %d", packed, more, got, err)
			}
		}
	}
}

// P4.5
func TestPackRoundTrip(t *testing.T) {
	for _, fields := range records() {
		packed, err := Pack(fields)
		if err != api.OK {
			t.Fatal(err)
		}
		if got, err := Unpack(packed); !slices.Equal(got, fields) || err != api.OK {
			t.Errorf("%.80q: %.80q, %d", fields, got, err)
		}
	}
}

// P4.2: the fields are the caller's own (R3).
func TestUnpackIsNew(t *testing.T) {
	packed := packedForm([]string{"a", "bc", ""})
	first, _ := Unpack(packed)
	first = append(first[:1], "x", "y", "z")
	if second, err := Unpack(packed); !slices.Equal(second, []string{"a", "bc", ""}) || err != api.OK {
		t.Error(first, second, err)
	}
}

// bodies are bodies at the edges, and bodies that look like frames.
func bodies() []string {
	l := []string{"", "a", "b", "ab", "\x00", "\x00\x00\x00\x00", strings.Repeat("\x00", 8), strings.Repeat("\x00", 9), "123456789", "é世界", "\xff\xff\xff\xff", frameOf(""), frameOf("a"), frameOf("a") + frameOf("b"), strings.Repeat("long ", 5000)}
	for _, n := range []int{3, 7, 8, 9, 100, 255, 256, 257, 4000, 65535, 65536, 65537} {
		l = append(l, mixed(n))
	}
	return l
}

// edgeBodies are the longest ones.
func edgeBodies() []string {
	return []string{mixed(greatestBody - 1), mixed(greatestBody), strings.Repeat("\x00", greatestBody), strings.Repeat("\xff", greatestBody)}
}

// frameOf is built from the definition alone.
func frameOf(body string) string {
	s := binary.BigEndian.AppendUint32(nil, uint32(len(body)))
	s = binary.BigEndian.AppendUint32(s, crc32.ChecksumIEEE([]byte(body)))
	return string(s) + body
}

// P4.3
func TestSeal(t *testing.T) {
	for body, want := range map[string]string{
		"": "\x00\x00\x00\x00\x00\x00\x00\x00", "123456789": "\x00\x00\x00\x09\xcb\xf4\x39\x26123456789", "a": "\x00\x00\x00\x01\xe8\xb7\xbe\x43a", "\x00": "\x00\x00\x00\x01\xd2\x02\xef\x8d\x00",
	} {
		if got, err := Seal(body); got != want || err != api.OK {
			t.Errorf("%q: %q, %d", body, got, err)
		}
	}
	for _, body := range append(bodies(), edgeBodies()...) {
		if got, err := Seal(body); got != frameOf(body) || err != api.OK {
			t.Errorf("%d bytes %.80q: %.80q, %d", len(body), body, got, err)
		}
	}
	if got, _ := Seal(mixed(greatestBody)); got[:4] != "\x00\x03\xff\xf8" || len(got) != greatestDisk {
		t.Errorf("%.8q, %d", got, len(got))
	}
	for _, n := range []int{greatestBody + 1, greatestDisk, greatestDisk + 1, 1 << 20} {
		if got, err := Seal(mixed(n)); got != "" || err != api.ErrLimit {
			t.Errorf("%d: %.80q, %d", n, got, err)
		}
	}
}

// P4.3 and P4.5: what follows the frame does not matter.
func TestOpen(t *testing.T) {
	tails := []string{"", "x", "\x00", strings.Repeat("\x00", 8), strings.Repeat("\xff", 9), frameOf("a"), mixed(300)}
	for _, body := range append(bodies(), edgeBodies()...) {
		for _, tail := range tails {
			if got, length, err := Open(frameOf(body) + tail); got != body || length != len(body)+8 || err != api.OK {
				t.Errorf("%d bytes %.80q, then %.80q: %.80q, %d, %d", len(body), body, tail, got, length, err)
			}
		}
		sealed, err := Seal(body)
		if err != api.OK {
			t.Fatal(err)
		}
		if got, length, err := Open(sealed); got != body || length != len(sealed) || err != api.OK {
			t.Errorf("%d bytes %.80q: %.80q, %d, %d", len(body), body, got, length, err)
		}
	}
}

// P4.3: the errors, in their order.
func TestOpenErrors(t *testing.T) {
	full := mixed(greatestDisk)
	for _, c := range []struct {
		s   string
		err api.Errno
	}{
		// Fewer than 8 bytes, even if the length is too great.
		{"", api.ErrTruncated}, {"\x00", api.ErrTruncated}, {strings.Repeat("\x00", 7), api.ErrTruncated}, {strings.Repeat("\xff", 4), api.ErrTruncated}, {strings.Repeat("\xff", 7), api.ErrTruncated}, {"\x00\x03\xff\xf9\x00\x00\x00", api.ErrTruncated},
		// A length that is too great, even if the body is incomplete.
		{strings.Repeat("\xff", 8), api.ErrCorrupt}, {"\x00\x03\xff\xf9\x00\x00\x00\x00", api.ErrCorrupt}, {frameOf(full[:greatestBody+1]), api.ErrCorrupt}, {frameOf(full), api.ErrCorrupt}, {"\x00\x04\x00\x00\x00\x00\x00\x00", api.ErrCorrupt}, {"\x01\x00\x00\x00\x00\x00\x00\x00", api.ErrCorrupt}, {"\x7f\xff\xff\xff\x00\x00\x00\x00", api.ErrCorrupt}, {"\x80\x00\x00\x00\x00\x00\x00\x00", api.ErrCorrupt}, {"\xff\xff\xff\xf8\x00\x00\x00\x00", api.ErrCorrupt},
		// A body that is incomplete, even if the checksum is not that of what is there.
		{"\x00\x00\x00\x01\x00\x00\x00\x00", api.ErrTruncated}, {"\x00\x00\x00\x01\xff\xff\xff\xff", api.ErrTruncated}, {"\x00\x03\xff\xf8\x00\x00\x00\x00", api.ErrTruncated}, {frameOf("ab")[:9], api.ErrTruncated}, {frameOf(full[:greatestBody])[:greatestDisk-1], api.ErrTruncated}, {"\x00\x03\xff\xf8" + full[:greatestDisk-5], api.ErrTruncated}, {"\x00\x00\x01\x00\x00\x00\x00\x00" + full[:255], api.ErrTruncated}, {"\x00\x01\x00\x00\x00\x00\x00\x00" + full[:65535], api.ErrTruncated},
		// A checksum that is not that of the body.
		{"\x00\x00\x00\x00\x00\x00\x00\x01", api.ErrCorrupt}, {"\x00\x00\x00\x00\x80\x00\x00\x00", api.ErrCorrupt}, {"\x00\x00\x00\x01\xe8\xb7\xbe\x43b", api.ErrCorrupt}, {"\x00\x00\x00\x01\x43\xbe\xb7\xe8a", api.ErrCorrupt}, {"\x00\x00\x00\x01\x00\x00\x00\x00a", api.ErrCorrupt}, {"\x00\x03\xff\xf8" + full[:greatestDisk-4], api.ErrCorrupt},
		{"\x00\x00\x00\x01" + frameOf("ab")[4:], api.ErrCorrupt}, {"\x01\x00\x00\x00\xe8\xb7\xbe\x43a", api.ErrCorrupt},
	} {
		if got, length, err := Open(c.s); got != "" || length != 0 || err != c.err {
			t.Errorf("%.80q: %.80q, %d, %d, not %d", c.s, got, length, err, c.err)
		}
	}
}

// P4.6: every byte of a frame, with and without bytes after it, is changed to every other value.
func TestChangedFrame(t *testing.T) {
	for _, body := range []string{"", "a", "ab", "\x00", "\x00\x00\x00\x00", "123456789", "\xff\xff\xff\xff\xff", frameOf(""), mixed(60)} {
		for _, tail := range []string{"", "x", strings.Repeat("\x00", 8), "\x9d\x0a\xd9\x6d", frameOf(body), mixed(300)} {
			frame := frameOf(body)
			for place := range len(frame) {
				for by := 1; by < 256; by++ {
					changed := []byte(frame + tail)
					changed[place] ^= byte(by)
					checkChanged(t, string(changed), body, place)
				}
			}
		}
	}
}

func checkChanged(t *testing.T, changed, body string, place int) {
	t.Helper()
	got, length, err := Open(changed)
	if err == api.OK && got == body {
		t.Errorf("%.80q, changed at %d: %.80q", changed, place, got)
	}
	if err != api.OK && (got != "" || length != 0) {
		t.Errorf("%.80q: %.80q, %d, %d", changed, got, length, err)
	}
	if place >= 4 && err != api.ErrCorrupt {
		t.Errorf("%.80q, changed at %d: %d", changed, place, err)
	}
}

// P4.6: some bytes of the longest frame are changed.
func TestChangedLongFrame(t *testing.T) {
	body := mixed(greatestBody)
	for _, place := range []int{0, 1, 2, 3, 4, 7, 8, 9, 4095, 65536, 131072, greatestDisk - 2, greatestDisk - 1} {
		for _, by := range []byte{1, 4, 128, 255} {
			changed := []byte(frameOf(body))
			changed[place] ^= by
			checkChanged(t, string(changed), body, place)
		}
	}
}

// P4.3 and P4.6: a length that is changed may be that of another body with the same checksum; then Open returns that one.
func TestOtherBody(t *testing.T) {
	other := "\x9d\x0a\xd9\x6d"
	if crc32.ChecksumIEEE([]byte(other)) != 0 {
		t.Fatal("its checksum is not that of the empty body")
	}
	if got, length, err := Open("\x00\x00\x00\x04\x00\x00\x00\x00" + other); got != other || length != 12 || err != api.OK {
		t.Errorf("%q, %d, %d", got, length, err)
	}
	if got, length, err := Open("\x00\x00\x00\x00\x00\x00\x00\x00" + other); got != "" || length != 8 || err != api.OK {
		t.Errorf("%q, %d, %d", got, length, err)
	}
}

// sequences are lists of bodies whose frames fit on a disk.
func sequences() [][]string {
	l := [][]string{nil, {}, {""}, {"", ""}, {"a", "b"}, {"b", "a"}, {"", "a", ""}, {"ab", "", "", "123456789"}, {"\x00\x00\x00\x00\x00\x00\x00\x00", "\x00"}, {frameOf("a"), "a", frameOf("")}, slices.Repeat([]string{"same"}, 50), make([]string, 100)}
	var growing []string
	for n := range 40 {
		growing = append(growing, mixed(n*n%97))
	}
	return append(l, growing)
}

// fullSequences are lists of bodies whose frames fill a disk.
func fullSequences() [][]string {
	return [][]string{{mixed(greatestBody)}, {mixed(131064), mixed(131064)}, {"", mixed(greatestBody - 8)}, {mixed(greatestBody - 8), ""}, {mixed(greatestBody - 9), "a"}, make([]string, greatestDisk/8), slices.Repeat([]string{mixed(56)}, greatestDisk/64)}
}

func framesOf(bodies []string) string {
	var s strings.Builder
	for _, body := range bodies {
		s.WriteString(frameOf(body))
	}
	return s.String()
}

// P4.4 and P4.5
func TestJoin(t *testing.T) {
	for _, bodies := range slices.Concat(sequences(), fullSequences()) {
		before := slices.Clone(bodies)
		want := framesOf(bodies)
		got, err := Join(bodies)
		if got != want || err != api.OK {
			t.Errorf("%d bodies %.80q: %.80q, %d", len(bodies), bodies, got, err)
		}
		if back, place := Split(got); !slices.Equal(back, before) || place != len(want) {
			t.Errorf("%d bodies %.80q: %.80q, %d", len(bodies), bodies, back, place)
		}
		if !slices.Equal(bodies, before) {
			t.Errorf("%.80q is changed to %.80q", before, bodies)
		}
	}
}

// P4.4
func TestJoinLimits(t *testing.T) {
	long := mixed(greatestBody + 1)
	tooMuch := [][]string{{long}, {"", long}, {long, ""}, {"a", long, "b"}, {mixed(1 << 20)}, {mixed(131064), mixed(131065)}, {mixed(131065), mixed(131064)}, {"a", mixed(greatestBody - 8)}, {mixed(greatestBody - 8), "a"}, {mixed(100000), mixed(100000), mixed(100000)}, make([]string, greatestDisk/8+1), make([]string, greatestDisk), slices.Repeat([]string{mixed(greatestBody)}, 100000)}
	for _, bodies := range fullSequences() {
		if len(framesOf(bodies)) == greatestDisk {
			tooMuch = append(tooMuch, append(slices.Clone(bodies), ""), append([]string{""}, bodies...))
		}
	}
	for _, bodies := range tooMuch {
		if got, err := Join(bodies); got != "" || err != api.ErrLimit {
			t.Errorf("%d bodies %.80q: %.80q, %d", len(bodies), bodies, got, err)
		}
	}
}

// P4.4: Split ends at the first place at which Open returns an error, whatever follows.
func TestSplit(t *testing.T) {
	a, b := frameOf("a"), frameOf("b")
	full := frameOf(mixed(greatestBody))
	for _, c := range []struct {
		s     string
		want  []string
		place int
	}{
		{"", nil, 0}, {"x", nil, 0}, {strings.Repeat("\x00", 7), nil, 0}, {strings.Repeat("\xff", 100), nil, 0}, {"x" + a, nil, 0},
		{strings.Repeat("\x00", 8), []string{""}, 8}, {strings.Repeat("\x00", 23), []string{"", ""}, 16}, {strings.Repeat("\x00", 24), []string{"", "", ""}, 24},
		{a + b, []string{"a", "b"}, 18}, {(a + b)[:17], []string{"a"}, 9}, {a + b + "\x00", []string{"a", "b"}, 18}, {a + "\x00\x00\x00\x01\xe8\xb7\xbe\x43b" + b, []string{"a"}, 9}, {a + "\xff" + b, []string{"a"}, 9}, {a[:8] + "b" + b, nil, 0}, {a + b + "\x00\x03\xff\xf9\x00\x00\x00\x00" + a, []string{"a", "b"}, 18},
		// More than a disk holds can be split too.
		{full + full + a, []string{mixed(greatestBody), mixed(greatestBody), "a"}, 2*greatestDisk + 9}, {full + full[:greatestDisk-1], []string{mixed(greatestBody)}, greatestDisk},
	} {
		if got, place := Split(c.s); !slices.Equal(got, c.want) || place != c.place {
			t.Errorf("%.80q: %.80q, %d", c.s, got, place)
		}
	}
}

// P4.6: a joined string is cut everywhere.
func TestSplitCut(t *testing.T) {
	for _, bodies := range sequences() {
		joined, err := Join(bodies)
		if err != api.OK {
			t.Fatal(err)
		}
		complete, start := 0, 0
		for end := 0; end <= len(joined); end++ {
			for complete < len(bodies) && start+8+len(bodies[complete]) <= end {
				start += 8 + len(bodies[complete])
				complete++
			}
			if got, place := Split(joined[:end]); !slices.Equal(got, bodies[:complete]) || place != start {
				t.Fatalf("%d of %.80q: %.80q, %d, not %d", end, joined, got, place, start)
			}
		}
	}
}

// P4.4: the bodies before a changed byte are found, and the place of the changed frame (if the length itself stays).
func TestSplitChanged(t *testing.T) {
	bodies := []string{"first", "", "third", "4"}
	joined := framesOf(bodies)
	start := 0
	for i, body := range bodies {
		for place := start + 4; place < start+8+len(body); place++ {
			changed := []byte(joined)
			changed[place] ^= 0x10
			if got, end := Split(string(changed)); !slices.Equal(got, bodies[:i]) || end != start {
				t.Errorf("changed at %d: %q, %d", place, got, end)
			}
		}
		start += 8 + len(body)
	}
}

// P4.4: the bodies are the caller's own (R3).
func TestSplitIsNew(t *testing.T) {
	joined := framesOf([]string{"a", "bc"})
	first, _ := Split(joined)
	first[0] = "x"
	if second, place := Split(joined); !slices.Equal(second, []string{"a", "bc"}) || place != len(joined) {
		t.Error(first, second, place)
	}
}
