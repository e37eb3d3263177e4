// Package num is layer 1: checked integers and their decimal form (see shared/doc/01-num.md).
package num

import (
	"math/bits"
	"strings"

	"faas/api"
)

// mostDigits is the number of digits of the integer of the greatest amount, -2^63.
const mostDigits = 19

// Valid reports whether n is from -MaxInt to MaxInt.
func Valid(n int) bool {
	return -api.MaxInt <= n && n <= api.MaxInt
}

// Format returns the decimal form of n, which need not be valid.
func Format(n int) string {
	rest := amount(n)
	digits := make([]byte, countDigits(rest))
	for i := range digits {
		digits[len(digits)-1-i] = byte('0' + rest%10)
		rest /= 10
	}
	if n < 0 {
		return "-" + string(digits)
	}
	return string(digits)
}

// amount is computed without a sign because that of -2^63 is no int.
func amount(n int) uint64 {
	if n < 0 {
		return -uint64(n)
	}
	return uint64(n)
}

func countDigits(n uint64) int {
	for i := range mostDigits - 1 {
		if n < 10 {
			return i + 1
		}
		n /= 10
	}
	return mostDigits
}

// Parse returns the valid integer whose decimal form is s.
func Parse(s string) (int, api.Errno) {
	digits, negative := strings.CutPrefix(s, "-")
	if !isDecimal(digits) || negative && digits == "0" {
		return 0, api.ErrSyntax
	}
	n := 0
	for i := range len(digits) {
		n = n*10 + int(digits[i]-'0')
		// It is left here, long before n could wrap around, however many digits follow.
		if !Valid(n) {
			return 0, api.ErrRange
		}
	}
	if negative {
		return -n, api.OK
	}
	return n, api.OK
}

// isDecimal reports whether s consists of digits, with no leading zero.
func isDecimal(s string) bool {
	for i := range len(s) {
		if s[i] < '0' || s[i] > '9' {
			return false
		}
	}
	return s == "0" || s != "" && s[0] != '0'
}

// Add returns the sum.
func Add(a, b int) (int, api.Errno) {
	if !Valid(a) || !Valid(b) {
		return 0, api.ErrRange
	}
	return checked(a + b)
}

// Sub returns the difference.
func Sub(a, b int) (int, api.Errno) {
	if !Valid(a) || !Valid(b) {
		return 0, api.ErrRange
	}
	return checked(a - b)
}

// checked rejects a result that is not valid.
func checked(n int) (int, api.Errno) {
	if !Valid(n) {
		return 0, api.ErrOverflow
	}
	return n, api.OK
}

// Mul returns the product.
func Mul(a, b int) (int, api.Errno) {
	if !Valid(a) || !Valid(b) {
		return 0, api.ErrRange
	}
	// The product of valid integers may need more than 64 bits, so it is bounded before it is computed.
	if a != 0 && amount(b) > api.MaxInt/amount(a) {
		return 0, api.ErrOverflow
	}
	return a * b, api.OK
}

// DivMod returns the quotient, rounded down, and the remainder, which is 0 or has the sign of b.
func DivMod(a, b int) (int, int, api.Errno) {
	if !Valid(a) || !Valid(b) {
		return 0, 0, api.ErrRange
	}
	if b == 0 {
		return 0, 0, api.ErrDivide
	}
	q, r := a/b, a%b
	// Go rounds towards zero, which is up where the exact quotient is negative.
	if r != 0 && (r < 0) != (b < 0) {
		return q - 1, r + b, api.OK
	}
	return q, r, api.OK
}

// CeilDiv returns the quotient, rounded up.
func CeilDiv(a, b int) (int, api.Errno) {
	q, r, err := DivMod(a, b)
	if err != api.OK {
		return 0, err
	}
	if r != 0 {
		q++
	}
	return q, api.OK
}

// MulDiv returns a * b / c, rounded down, with an exact product; no operand may be negative.
func MulDiv(a, b, c int) (int, api.Errno) {
	if !isAmount(a) || !isAmount(b) || !isAmount(c) {
		return 0, api.ErrRange
	}
	if c == 0 {
		return 0, api.ErrDivide
	}
	high, low := bits.Mul64(uint64(a), uint64(b))
	// A quotient of 2^64 or more, for which Div64 panics.
	if high >= uint64(c) {
		return 0, api.ErrOverflow
	}
	q, _ := bits.Div64(high, low, uint64(c))
	if q > api.MaxInt {
		return 0, api.ErrOverflow
	}
	return int(q), api.OK
}

// isAmount reports whether n is valid and not negative.
func isAmount(n int) bool {
	return 0 <= n && n <= api.MaxInt
}

// Clamp returns low if n is less than low, otherwise high if n is greater than high, otherwise n.
func Clamp(n, low, high int) int {
	if n < low {
		return low
	}
	if n > high {
		return high
	}
	return n
}
