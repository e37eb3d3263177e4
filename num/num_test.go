package num

import (
	"math"
	"math/big"
	"strconv"
	"strings"
	"testing"

	"faas/api"
)

// edges are the integers at which the specified cases change, with some ordinary ones; invalid ones are among them.
func edges() []int {
	l := []int{math.MinInt, math.MinInt + 1, math.MaxInt - 1, math.MaxInt}
	for _, n := range []int{0, 3, 7, 10, 999999, 1000000, 123456789, 99999999999, 500000000000, api.MaxInt, 1 << 32, 3037000500} {
		for d := -1; d <= 1; d++ {
			l = append(l, n+d, -n-d)
		}
	}
	return l
}

func isValid(l ...int) bool {
	for _, n := range l {
		if n < -1000000000000 || n > 1000000000000 {
			return false
		}
	}
	return true
}

// wanted is the specified answer for an exact result.
func wanted(exact *big.Int) (int, api.Errno) {
	if exact.CmpAbs(big.NewInt(1000000000000)) > 0 {
		return 0, api.ErrOverflow
	}
	return int(exact.Int64()), api.OK
}

// floorDiv rounds down for every sign; Div of package big leaves a remainder that is not negative instead.
func floorDiv(a, b *big.Int) *big.Int {
	q, r := new(big.Int).QuoRem(a, b, new(big.Int))
	if r.Sign() != 0 && r.Sign() != b.Sign() {
		q.Sub(q, big.NewInt(1))
	}
	return q
}

// P1.1
func TestValid(t *testing.T) {
	for _, c := range []struct {
		n    int
		want bool
	}{
		{n: 0, want: true}, {n: 1, want: true}, {n: -1, want: true}, {n: 123456, want: true},
		{n: 1000000000000, want: true}, {n: -1000000000000, want: true},
		{n: 1000000000001}, {n: -1000000000001}, {n: math.MaxInt}, {n: math.MinInt},
	} {
		if Valid(c.n) != c.want {
			t.Error(c.n, !c.want)
		}
	}
}

// P1.1
func TestFormat(t *testing.T) {
	for _, c := range []struct {
		n    int
		want string
	}{
		{0, "0"}, {7, "7"}, {-7, "-7"}, {9, "9"}, {10, "10"}, {-10, "-10"}, {1005, "1005"}, {120, "120"},
		{1000000000000, "1000000000000"}, {-1000000000000, "-1000000000000"}, {1000000000001, "1000000000001"},
		{math.MaxInt, "9223372036854775807"}, {math.MinInt, "-9223372036854775808"}, {math.MinInt + 1, "-9223372036854775807"},
	} {
		if got := Format(c.n); got != c.want {
			t.Error(c.n, got)
		}
	}
}

// P1.1: every number of digits, at its least and its greatest integer.
func TestFormatOfEveryLength(t *testing.T) {
	for power := 1; ; power *= 10 {
		for _, n := range []int{power, power - 1, -power, 1 - power, power + power/2} {
			if got := Format(n); got != strconv.Itoa(n) {
				t.Error(n, got)
			}
		}
		if power > math.MaxInt/10 {
			return
		}
	}
}

// P1.2
func TestParse(t *testing.T) {
	for _, c := range []struct {
		s    string
		want int
	}{
		{"0", 0}, {"5", 5}, {"-5", -5}, {"10", 10}, {"-10", -10}, {"9876543210", 9876543210}, {"102030", 102030},
		{"999999999999", 999999999999}, {"1000000000000", 1000000000000}, {"-1000000000000", -1000000000000},
	} {
		if got, err := Parse(c.s); got != c.want || err != api.OK {
			t.Error(c.s, got, err)
		}
	}
}

// P1.2: what is not the decimal form of an integer is malformed, however long it is.
func TestParseMalformed(t *testing.T) {
	long := strings.Repeat("9", 5000)
	for _, s := range []string{
		"", "-", "+", "-0", "+0", "+1", "--1", "-+1", "00", "01", "007", "-007", "-00", "0000000000000000000001",
		" ", " 1", "1 ", "1\n", "1-", "1-1", "1.0", "1e3", "0x10", "1_000", "a", "1a", "a1", "-a", "/", ":", "1/", "1:",
		"\x00", "1\x00", "\xff", "٣", "1٣", "１", "−1",
		long + "x", "0" + long, "-0" + long, "1000000000001x", "99999999999999999999 ",
	} {
		if got, err := Parse(s); got != 0 || err != api.ErrSyntax {
			t.Error(s, got, err)
		}
	}
}

// P1.2: an integer of any size beyond the valid ones, also where 64 bits would wrap around to a valid one.
func TestParseOutOfRange(t *testing.T) {
	for _, s := range []string{
		"1000000000001", "-1000000000001", "1000000000010", "9999999999999", "10000000000000",
		"9223372036854775807", "-9223372036854775808", "9223372036854775808", "18446744073709551616", "-18446744073709551617",
		"18446744073709551617", "340282366920938463463374607431768211457",
		strings.Repeat("9", 5000), "-1" + strings.Repeat("0", 5000),
	} {
		if got, err := Parse(s); got != 0 || err != api.ErrRange {
			t.Error(s, got, err)
		}
	}
}

// P1.3
func TestAddSubMul(t *testing.T) {
	for _, c := range []struct {
		name string
		f    func(a, b int) (int, api.Errno)
		a, b int
		want int
		err  api.Errno
	}{
		{"add", Add, 2, 3, 5, api.OK},
		{"add", Add, 2, -3, -1, api.OK},
		{"add", Add, 1000000000000, 1, 0, api.ErrOverflow},
		{"add", Add, -1000000000000, -1, 0, api.ErrOverflow},
		{"add", Add, 1000000000001, 0, 0, api.ErrRange},
		{"add", Add, 0, -1000000000001, 0, api.ErrRange},
		{"add", Add, 1000000000001, -1, 0, api.ErrRange},
		{"add", Add, math.MaxInt, math.MinInt, 0, api.ErrRange},
		{"sub", Sub, 2, 3, -1, api.OK},
		{"sub", Sub, 1000000000000, 1000000000000, 0, api.OK},
		{"sub", Sub, 1000000000000, -1, 0, api.ErrOverflow},
		{"sub", Sub, -1000000000000, 1, 0, api.ErrOverflow},
		{"sub", Sub, 1000000000001, 1, 0, api.ErrRange},
		{"sub", Sub, 1, 1000000000001, 0, api.ErrRange},
		{"sub", Sub, math.MinInt, math.MinInt, 0, api.ErrRange},
		{"mul", Mul, -4, 5, -20, api.OK},
		{"mul", Mul, -4, -5, 20, api.OK},
		{"mul", Mul, 0, 1000000000000, 0, api.OK},
		{"mul", Mul, 1000000000000, 0, 0, api.OK},
		{"mul", Mul, 1000000, -1000000, -1000000000000, api.OK},
		{"mul", Mul, 1000000000000, -1, -1000000000000, api.OK},
		{"mul", Mul, 1000001, 1000000, 0, api.ErrOverflow},
		{"mul", Mul, -1000001, 999999, -999999999999, api.OK},
		{"mul", Mul, 3, 333333333334, 0, api.ErrOverflow},
		{"mul", Mul, 3, 333333333333, 999999999999, api.OK},
		{"mul", Mul, 4294967296, 4294967296, 0, api.ErrOverflow}, // 2^64
		{"mul", Mul, 1000000000001, 0, 0, api.ErrRange},
		{"mul", Mul, 0, -1000000000001, 0, api.ErrRange},
	} {
		if got, err := c.f(c.a, c.b); got != c.want || err != c.err {
			t.Error(c.name, c.a, c.b, got, err)
		}
	}
}

// P1.3, against exact integers
func TestAddSubMulExact(t *testing.T) {
	for _, c := range []struct {
		name  string
		f     func(a, b int) (int, api.Errno)
		exact func(z, a, b *big.Int) *big.Int
	}{
		{"add", Add, (*big.Int).Add}, {"sub", Sub, (*big.Int).Sub}, {"mul", Mul, (*big.Int).Mul},
	} {
		for _, a := range edges() {
			for _, b := range edges() {
				want, wantErr := 0, api.ErrRange
				if isValid(a, b) {
					want, wantErr = wanted(c.exact(new(big.Int), big.NewInt(int64(a)), big.NewInt(int64(b))))
				}
				if got, err := c.f(a, b); got != want || err != wantErr {
					t.Error(c.name, a, b, got, err)
				}
			}
		}
	}
}

// P1.4
func TestDivision(t *testing.T) {
	for _, c := range []struct{ a, b, q, r, ceil int }{
		{7, 2, 3, 1, 4}, {-7, 2, -4, 1, -3}, {7, -2, -4, -1, -3}, {-7, -2, 3, -1, 4},
		{6, 3, 2, 0, 2}, {-6, 3, -2, 0, -2}, {6, -3, -2, 0, -2}, {-6, -3, 2, 0, 2},
		{0, 5, 0, 0, 0}, {0, -5, 0, 0, 0}, {1, 5, 0, 1, 1}, {-1, 5, -1, 4, 0}, {1, -5, -1, -4, 0}, {-1, -5, 0, -1, 1},
		{1000000000000, 1, 1000000000000, 0, 1000000000000}, {1000000000000, -1, -1000000000000, 0, -1000000000000},
		{-1, 1000000000000, -1, 999999999999, 0}, {1000000000000, -1000000000000, -1, 0, -1},
	} {
		if q, r, err := DivMod(c.a, c.b); q != c.q || r != c.r || err != api.OK {
			t.Error("divmod", c.a, c.b, q, r, err)
		}
		if q, err := CeilDiv(c.a, c.b); q != c.ceil || err != api.OK {
			t.Error("ceildiv", c.a, c.b, q, err)
		}
	}
}

// P1.4: an invalid operand comes before a division by zero.
func TestDivisionErrors(t *testing.T) {
	for _, c := range []struct {
		a, b int
		err  api.Errno
	}{
		{1, 0, api.ErrDivide}, {0, 0, api.ErrDivide}, {-1000000000000, 0, api.ErrDivide},
		{1000000000001, 0, api.ErrRange}, {-1000000000001, 0, api.ErrRange}, {1000000000001, 1, api.ErrRange},
		{1, 1000000000001, api.ErrRange}, {1, -1000000000001, api.ErrRange}, {math.MinInt, -1, api.ErrRange},
	} {
		if q, r, err := DivMod(c.a, c.b); q != 0 || r != 0 || err != c.err {
			t.Error("divmod", c.a, c.b, q, r, err)
		}
		if q, err := CeilDiv(c.a, c.b); q != 0 || err != c.err {
			t.Error("ceildiv", c.a, c.b, q, err)
		}
	}
}

// P1.4 and P1.8: a = q * b + r, where r is 0 or between 0 and b; this makes q the greatest integer that is at most a / b.
func TestDivModExact(t *testing.T) {
	for _, a := range edges() {
		for _, b := range edges() {
			if !isValid(a, b) || b == 0 {
				continue
			}
			q, r, err := DivMod(a, b)
			if err != api.OK || !isValid(q, r) {
				t.Fatal(a, b, q, r, err)
			}
			// |q * b| is less than |a| + |b|: int is wide enough.
			if q*b+r != a || r != 0 && (r < 0) != (b < 0) || max(r, -r) >= max(b, -b) {
				t.Error(a, b, q, r)
			}
			floor := floorDiv(big.NewInt(int64(-a)), big.NewInt(int64(b)))
			if c, err := CeilDiv(a, b); c != -int(floor.Int64()) || err != api.OK {
				t.Error(a, b, c, err)
			}
		}
	}
}

// P1.5
func TestMulDiv(t *testing.T) {
	for _, c := range []struct {
		a, b, c, want int
		err           api.Errno
	}{
		{7, 5, 3, 11, api.OK}, {6, 5, 3, 10, api.OK}, {1, 1, 2, 0, api.OK}, {0, 0, 1, 0, api.OK}, {0, 1000000000000, 7, 0, api.OK},
		{1000000000000, 1000000000000, 1000000000000, 1000000000000, api.OK},
		{1000000000000, 999999999999, 1000000000000, 999999999999, api.OK},
		{999999999999, 999999999999, 1000000000000, 999999999998, api.OK},
		{1000000000000, 3, 7, 428571428571, api.OK},
		{1000000000000, 1, 1, 1000000000000, api.OK},
		{1000000000000, 2, 1, 0, api.ErrOverflow},
		{1000000000000, 1000000000000, 999999999999, 0, api.ErrOverflow},
		{1000000000000, 1000000000000, 1, 0, api.ErrOverflow},     // the quotient needs more than 64 bits
		{1000000000000, 1000000000000, 54210, 0, api.ErrOverflow}, // just more than 64 bits
		{1000000000000, 1000000000000, 54211, 0, api.ErrOverflow}, // just less
		{500000, 2000001, 1, 0, api.ErrOverflow},
		{1, 1, 0, 0, api.ErrDivide}, {0, 0, 0, 0, api.ErrDivide}, {1000000000000, 1000000000000, 0, 0, api.ErrDivide},
		{-1, 1, 1, 0, api.ErrRange}, {1, -1, 1, 0, api.ErrRange}, {1, 1, -1, 0, api.ErrRange}, {-1, -1, 1, 0, api.ErrRange},
		{-1, 1, 0, 0, api.ErrRange}, {1, -1, 0, 0, api.ErrRange},
		{1000000000001, 0, 1, 0, api.ErrRange}, {0, 1000000000001, 1, 0, api.ErrRange}, {0, 0, 1000000000001, 0, api.ErrRange},
		{1000000000001, 1, 0, 0, api.ErrRange}, {1, 1000000000001, 0, 0, api.ErrRange}, {math.MinInt, 1, 1, 0, api.ErrRange},
	} {
		if got, err := MulDiv(c.a, c.b, c.c); got != c.want || err != c.err {
			t.Error(c, got, err)
		}
	}
}

// P1.5 and P1.8: the result times c is at most a * b, and the result plus 1, times c, is greater.
func TestMulDivExact(t *testing.T) {
	for _, a := range edges() {
		for _, b := range edges() {
			for _, c := range edges() {
				got, err := MulDiv(a, b, c)
				want, wantErr := 0, api.ErrRange
				product := new(big.Int).Mul(big.NewInt(int64(a)), big.NewInt(int64(b)))
				if isValid(a, b, c) && a >= 0 && b >= 0 && c == 0 {
					wantErr = api.ErrDivide
				} else if isValid(a, b, c) && a >= 0 && b >= 0 && c > 0 {
					want, wantErr = wanted(floorDiv(product, big.NewInt(int64(c))))
				}
				if got != want || err != wantErr {
					t.Fatal(a, b, c, got, err)
				}
				low := new(big.Int).Mul(big.NewInt(int64(got)), big.NewInt(int64(c)))
				high := new(big.Int).Mul(big.NewInt(int64(got)+1), big.NewInt(int64(c)))
				if err == api.OK && (low.Cmp(product) > 0 || high.Cmp(product) <= 0) {
					t.Fatal(a, b, c, got)
				}
			}
		}
	}
}

// P1.6
func TestClamp(t *testing.T) {
	for _, c := range []struct{ n, low, high, want int }{
		{2, 1, 3, 2}, {0, 1, 3, 1}, {5, 1, 3, 3}, {1, 1, 3, 1}, {3, 1, 3, 3}, {4, 4, 4, 4}, {-2, -3, -1, -2}, {-4, -3, -1, -3},
		// With bounds in the wrong order, low comes first.
		{0, 3, 1, 3}, {2, 3, 1, 3}, {3, 3, 1, 1}, {5, 3, 1, 1},
		// No operand has to be valid.
		{math.MaxInt, math.MinInt, math.MaxInt, math.MaxInt}, {math.MinInt, -5, 5, -5}, {math.MaxInt, -5, 5, 5},
		{0, math.MaxInt, math.MinInt, math.MaxInt}, {2000000000000, 0, 3000000000000, 2000000000000},
	} {
		if got := Clamp(c.n, c.low, c.high); got != c.want {
			t.Error(c, got)
		}
	}
}

// P1.7
func TestRoundTrip(t *testing.T) {
	for _, n := range edges() {
		got, err := Parse(Format(n))
		if isValid(n) && (got != n || err != api.OK) || !isValid(n) && (got != 0 || err != api.ErrRange) {
			t.Error(n, got, err)
		}
	}
	for n := -2000; n <= 2000; n++ {
		if got, err := Parse(Format(n)); got != n || err != api.OK {
			t.Error(n, got, err)
		}
	}
}

// P1.7: all short strings over the characters that matter; whatever is accepted is the decimal form of the result.
func TestAcceptedIsDecimalForm(t *testing.T) {
	const characters = "019-+ a"
	accepted := 0
	level := []string{""}
	for range 5 {
		var next []string
		for _, s := range level {
			for i := range len(characters) {
				next = append(next, s+characters[i:i+1])
			}
		}
		for _, s := range next {
			n, err := Parse(s)
			if err == api.OK && Format(n) != s {
				t.Error(s, n)
			}
			if err == api.OK {
				accepted++
			} else if n != 0 || err != api.ErrSyntax {
				t.Error(s, n, err)
			}
		}
		level = next
	}
	// 0, and the integers of up to 5 bytes with a sign or without whose digits are 0, 1 and 9: 1 + 2 + 6 + 18 + 54 + 162 + 2 + 6 + 18 + 54.
	if accepted != 323 {
		t.Error(accepted)
	}
}
