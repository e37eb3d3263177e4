package ratio

import (
	"math"
	"math/big"
	"strings"
	"testing"

	"faas/api"
)

const (
	greatestInt = 1000000000000
	greatestNum = 1000000000
	greatestDen = 1000000
)

func of(n, d int) api.Ratio {
	return api.Ratio{Num: n, Den: d}
}

// valid are valid ratios: ordinary ones, those at the edges, and neighbours that differ by little.
func valid() []api.Ratio {
	l := []api.Ratio{of(0, 1)}
	for _, r := range []api.Ratio{
		of(1, 1), of(2, 1), of(5, 1), of(6, 1), of(7, 1), of(1000, 1), of(1, 2), of(3, 2), of(1, 3), of(2, 3), of(4, 3), of(3, 4), of(5, 6), of(7, 12), of(22, 7), of(1, 1000), of(999, 1000),
		of(31623, 1), of(31622, 1), of(1000000, 1), of(1000001, 1), of(500000000, 1), of(500000001, 1), of(greatestNum-1, 1), of(greatestNum, 1),
		of(1, greatestDen), of(3, greatestDen), of(1, greatestDen-1), of(999998, 999999), of(999999, greatestDen), of(greatestDen+1, greatestDen), of(1, 1001), of(1, 1024), of(1, 500000), of(1, 500001),
		of(greatestNum, 999999), of(greatestNum, 3), of(greatestNum-1, greatestDen), of(greatestNum-1, 2), of(500000001, 2), of(123456789, 1000),
	} {
		l = append(l, r, of(-r.Num, r.Den))
	}
	return l
}

// invalid are structs that are not valid ratios: not in lowest terms, with a denominator that is not positive, or out of the limits.
func invalid() []api.Ratio {
	return []api.Ratio{
		{}, of(0, 2), of(0, greatestDen), of(0, -1), of(1, 0), of(-1, 0), of(1, -1), of(1, -2), of(-1, -2), of(3, -1),
		of(2, 2), of(2, 4), of(-2, 4), of(6, 3), of(-6, 4), of(10, 15), of(greatestDen, greatestDen), of(greatestNum, greatestDen), of(greatestNum, 2),
		of(greatestNum+1, 1), of(-greatestNum-1, 1), of(greatestNum+1, 2), of(1, greatestDen+1), of(-1, greatestDen+1), of(greatestNum+1, greatestDen+1),
		of(math.MaxInt, 1), of(math.MinInt, 1), of(1, math.MaxInt), of(1, math.MinInt), of(0, math.MinInt), of(math.MinInt, math.MinInt), of(math.MaxInt, math.MaxInt), of(math.MinInt, -1), of(math.MinInt, 0),
	}
}

// integers are valid and invalid integers: ordinary ones, and the edges.
func integers() []int {
	l := []int{0, math.MaxInt, math.MinInt, math.MinInt + 1}
	for _, n := range []int{1, 2, 3, 4, 6, 7, 10, 12, 100, 1000, 999999, 1000000, 1000001, 2000000, 999999999, 1000000000, 1000000001, 2000000000, 500000000000, 333333333333, 999999000001, 999998999999, 999999999999, 1000000000000, 1000000000001} {
		l = append(l, n, -n)
	}
	return l
}

func isInt(n int) bool {
	return -greatestInt <= n && n <= greatestInt
}

func exact(r api.Ratio) *big.Rat {
	return big.NewRat(int64(r.Num), int64(r.Den))
}

// wanted is the specified answer for an exact result: package big keeps it in lowest terms with a positive denominator.
func wanted(result *big.Rat) (api.Ratio, api.Errno) {
	if result.Num().CmpAbs(big.NewInt(greatestNum)) > 0 || result.Denom().Cmp(big.NewInt(greatestDen)) > 0 {
		return api.Ratio{}, api.ErrOverflow
	}
	return of(int(result.Num().Int64()), int(result.Denom().Int64())), api.OK
}

// floorOf rounds down. The denominator is positive, so the division of package big, whose remainder is not negative, does that.
func floorOf(r *big.Rat) *big.Int {
	return new(big.Int).Div(r.Num(), r.Denom())
}

func ceilOf(r *big.Rat) *big.Int {
	down := floorOf(new(big.Rat).Neg(r))
	return down.Neg(down)
}

// P2.1
func TestValid(t *testing.T) {
	for _, r := range valid() {
		if !Valid(r) {
			t.Error(r)
		}
	}
	for _, r := range invalid() {
		if Valid(r) {
			t.Error(r)
		}
	}
}

// P2.1: all small structs, among which those in lowest terms with a positive denominator are valid.
func TestValidSmall(t *testing.T) {
	for n := -40; n <= 40; n++ {
		for d := -40; d <= 40; d++ {
			want := d > 0 && exact(of(n, max(d, 1))).Denom().Int64() == int64(d)
			if Valid(of(n, d)) != want {
				t.Error(n, d, !want)
			}
		}
	}
}

// P2.2
func TestMake(t *testing.T) {
	for _, c := range []struct {
		n, d int
		want api.Ratio
		err  api.Errno
	}{
		{6, -4, of(-3, 2), api.OK}, {6, 4, of(3, 2), api.OK}, {-6, 4, of(-3, 2), api.OK}, {-6, -4, of(3, 2), api.OK}, {0, -7, of(0, 1), api.OK}, {0, 7, of(0, 1), api.OK}, {1, 2, of(1, 2), api.OK}, {5, 1, of(5, 1), api.OK}, {5, -1, of(-5, 1), api.OK}, {10, 5, of(2, 1), api.OK},
		// The limits hold for the lowest terms.
		{greatestInt, greatestInt, of(1, 1), api.OK}, {greatestInt, -greatestInt, of(-1, 1), api.OK}, {0, greatestInt, of(0, 1), api.OK}, {greatestInt, 1000, of(greatestNum, 1), api.OK}, {1000000, greatestInt, of(1, greatestDen), api.OK}, {-3000000, greatestInt, of(-3, greatestDen), api.OK},
		{greatestNum, 1, of(greatestNum, 1), api.OK}, {-greatestNum, 1, of(-greatestNum, 1), api.OK}, {1, greatestDen, of(1, greatestDen), api.OK},
		{greatestNum + 1, 1, api.Ratio{}, api.ErrOverflow}, {greatestNum + 1, -1, api.Ratio{}, api.ErrOverflow}, {1, greatestDen + 1, api.Ratio{}, api.ErrOverflow}, {1, -greatestDen - 1, api.Ratio{}, api.ErrOverflow}, {greatestInt, 1, api.Ratio{}, api.ErrOverflow}, {1, greatestInt, api.Ratio{}, api.ErrOverflow}, {greatestInt, 999, api.Ratio{}, api.ErrOverflow},
		{1, 0, api.Ratio{}, api.ErrDivide}, {0, 0, api.Ratio{}, api.ErrDivide}, {-greatestInt, 0, api.Ratio{}, api.ErrDivide},
		// An operand that is not valid comes before a division by zero.
		{greatestInt + 1, 0, api.Ratio{}, api.ErrRange}, {-greatestInt - 1, 0, api.Ratio{}, api.ErrRange}, {greatestInt + 1, 1, api.Ratio{}, api.ErrRange}, {greatestInt + 1, greatestInt + 1, api.Ratio{}, api.ErrRange}, {1, greatestInt + 1, api.Ratio{}, api.ErrRange}, {0, -greatestInt - 1, api.Ratio{}, api.ErrRange}, {math.MinInt, math.MinInt, api.Ratio{}, api.ErrRange}, {math.MinInt, -1, api.Ratio{}, api.ErrRange},
	} {
		if got, err := Make(c.n, c.d); got != c.want || err != c.err {
			t.Error(c, got, err)
		}
	}
}

// P2.2, against exact fractions
func TestMakeExact(t *testing.T) {
	for _, n := range integers() {
		for _, d := range integers() {
			want, wantErr := api.Ratio{}, api.ErrRange
			if isInt(n) && isInt(d) && d == 0 {
				wantErr = api.ErrDivide
			} else if isInt(n) && isInt(d) {
				want, wantErr = wanted(exact(of(n, d)))
			}
			if got, err := Make(n, d); got != want || err != wantErr {
				t.Error(n, d, got, err)
			}
		}
	}
}

type operation struct {
	name  string
	f     func(a, b api.Ratio) (api.Ratio, api.Errno)
	exact func(z, a, b *big.Rat) *big.Rat
}

func operations() []operation {
	return []operation{{"add", Add, (*big.Rat).Add}, {"sub", Sub, (*big.Rat).Sub}, {"mul", Mul, (*big.Rat).Mul}, {"div", Div, (*big.Rat).Quo}}
}

// P2.3
func TestArithmetic(t *testing.T) {
	for _, c := range []struct {
		name string
		f    func(a, b api.Ratio) (api.Ratio, api.Errno)
		a, b api.Ratio
		want api.Ratio
		err  api.Errno
	}{
		{"add", Add, of(1, 2), of(1, 3), of(5, 6), api.OK},
		{"add", Add, of(1, 2), of(-1, 2), of(0, 1), api.OK},
		{"add", Add, of(1, 6), of(1, 3), of(1, 2), api.OK},
		{"add", Add, of(greatestNum-1, 1), of(1, 1), of(greatestNum, 1), api.OK},
		{"add", Add, of(greatestNum, 1), of(1, 1), api.Ratio{}, api.ErrOverflow},
		{"add", Add, of(greatestNum, 1), of(1, 2), api.Ratio{}, api.ErrOverflow},
		{"add", Add, of(1, 1001), of(1, 1000), api.Ratio{}, api.ErrOverflow},
		{"add", Add, of(1, greatestDen), of(1, 999999), api.Ratio{}, api.ErrOverflow},
		{"add", Add, of(1, greatestDen), of(1, greatestDen), of(1, 500000), api.OK},
		{"sub", Sub, of(1, 2), of(1, 3), of(1, 6), api.OK},
		{"sub", Sub, of(1, 3), of(1, 2), of(-1, 6), api.OK},
		{"sub", Sub, of(22, 7), of(22, 7), of(0, 1), api.OK},
		{"sub", Sub, of(-greatestNum, 1), of(1, 1), api.Ratio{}, api.ErrOverflow},
		{"sub", Sub, of(greatestNum, 1), of(-greatestNum, 1), api.Ratio{}, api.ErrOverflow},
		{"mul", Mul, of(2, 3), of(3, 4), of(1, 2), api.OK},
		{"mul", Mul, of(-2, 3), of(3, 2), of(-1, 1), api.OK},
		{"mul", Mul, of(-2, 3), of(-1, 2), of(1, 3), api.OK},
		{"mul", Mul, of(0, 1), of(greatestNum-1, greatestDen), of(0, 1), api.OK},
		{"mul", Mul, of(greatestNum, 1), of(greatestNum, 1), api.Ratio{}, api.ErrOverflow},
		{"mul", Mul, of(-greatestNum, 1), of(greatestNum, 1), api.Ratio{}, api.ErrOverflow},
		{"mul", Mul, of(1, greatestDen), of(1, greatestDen), api.Ratio{}, api.ErrOverflow},
		{"mul", Mul, of(greatestNum, 1), of(1, greatestDen), of(1000, 1), api.OK},
		{"mul", Mul, of(greatestNum, 999999), of(999999, greatestDen), of(1000, 1), api.OK},
		{"div", Div, of(1, 2), of(3, 4), of(2, 3), api.OK},
		{"div", Div, of(1, 2), of(-3, 4), of(-2, 3), api.OK},
		{"div", Div, of(-1, 2), of(-3, 4), of(2, 3), api.OK},
		{"div", Div, of(0, 1), of(-3, 4), of(0, 1), api.OK},
		{"div", Div, of(greatestNum, 1), of(greatestNum, 1), of(1, 1), api.OK},
		{"div", Div, of(1, 1), of(greatestDen, 1), of(1, greatestDen), api.OK},
		{"div", Div, of(1, 1), of(greatestDen+1, 1), api.Ratio{}, api.ErrOverflow},
		{"div", Div, of(greatestNum, 1), of(1, greatestDen), api.Ratio{}, api.ErrOverflow},
		{"div", Div, of(1, 1), of(0, 1), api.Ratio{}, api.ErrDivide},
		{"div", Div, of(0, 1), of(0, 1), api.Ratio{}, api.ErrDivide},
		// An operand that is not valid comes before a division by zero.
		{"div", Div, of(2, 4), of(0, 1), api.Ratio{}, api.ErrRange},
		{"div", Div, of(1, 1), of(0, 2), api.Ratio{}, api.ErrRange},
		{"div", Div, of(1, 1), of(0, 0), api.Ratio{}, api.ErrRange},
	} {
		if got, err := c.f(c.a, c.b); got != c.want || err != c.err {
			t.Error(c.name, c.a, c.b, got, err)
		}
	}
}

// P2.3: either operand, and both, may be invalid.
func TestArithmeticInvalid(t *testing.T) {
	for _, o := range operations() {
		for _, bad := range invalid() {
			for _, other := range append(valid(), bad) {
				if got, err := o.f(bad, other); got != (api.Ratio{}) || err != api.ErrRange {
					t.Error(o.name, bad, other, got, err)
				}
				if got, err := o.f(other, bad); got != (api.Ratio{}) || err != api.ErrRange {
					t.Error(o.name, other, bad, got, err)
				}
			}
		}
	}
}

// P2.3, against exact fractions
func TestArithmeticExact(t *testing.T) {
	for _, o := range operations() {
		for _, a := range valid() {
			for _, b := range valid() {
				want, wantErr := api.Ratio{}, api.ErrDivide
				if o.name != "div" || b.Num != 0 {
					want, wantErr = wanted(o.exact(new(big.Rat), exact(a), exact(b)))
				}
				if got, err := o.f(a, b); got != want || err != wantErr {
					t.Error(o.name, a, b, got, err)
				}
			}
		}
	}
}

// P2.4
func TestCmp(t *testing.T) {
	for _, c := range []struct {
		a, b api.Ratio
		want int
	}{
		{of(1, 3), of(1, 2), -1}, {of(1, 2), of(1, 3), 1}, {of(1, 2), of(1, 2), 0}, {of(-1, 2), of(-1, 3), -1}, {of(-1, 2), of(1, 2), -1}, {of(0, 1), of(-1, 2), 1}, {of(0, 1), of(0, 1), 0}, {of(3, 1), of(2, 1), 1}, {of(3, 2), of(4, 3), 1},
		// These differ by less than 10^-11.
		{of(999998, 999999), of(999999, greatestDen), -1}, {of(1, greatestDen), of(1, greatestDen-1), -1},
		{of(greatestNum, 1), of(greatestNum-1, greatestDen), 1}, {of(-greatestNum, 1), of(greatestNum, 1), -1}, {of(greatestNum, 1), of(-greatestNum, 1), 1},
	} {
		if got := Cmp(c.a, c.b); got != c.want {
			t.Error(c, got)
		}
	}
}

// P2.4, against exact fractions, and with invalid arguments
func TestCmpExact(t *testing.T) {
	for _, a := range valid() {
		for _, b := range valid() {
			if got := Cmp(a, b); got != exact(a).Cmp(exact(b)) {
				t.Error(a, b, got)
			}
		}
		for _, bad := range invalid() {
			if Cmp(a, bad) != 0 || Cmp(bad, a) != 0 || Cmp(bad, bad) != 0 {
				t.Error(a, bad)
			}
		}
	}
}

// P2.5
func TestFloorCeil(t *testing.T) {
	for _, c := range []struct {
		r           api.Ratio
		floor, ceil int
	}{
		{of(-3, 2), -2, -1}, {of(3, 2), 1, 2}, {of(5, 1), 5, 5}, {of(-5, 1), -5, -5}, {of(0, 1), 0, 0}, {of(1, greatestDen), 0, 1}, {of(-1, greatestDen), -1, 0}, {of(greatestNum, 1), greatestNum, greatestNum}, {of(-greatestNum, 1), -greatestNum, -greatestNum}, {of(greatestNum-1, 2), 499999999, 500000000}, {of(1-greatestNum, 2), -500000000, -499999999},
	} {
		if floor, ceil := Floor(c.r), Ceil(c.r); floor != c.floor || ceil != c.ceil {
			t.Error(c.r, floor, ceil)
		}
	}
}

// P2.5, against exact fractions, and with invalid arguments
func TestFloorCeilExact(t *testing.T) {
	for _, r := range valid() {
		if floor := Floor(r); int64(floor) != floorOf(exact(r)).Int64() {
			t.Error("floor", r, floor)
		}
		if ceil := Ceil(r); int64(ceil) != ceilOf(exact(r)).Int64() {
			t.Error("ceil", r, ceil)
		}
	}
	for _, r := range invalid() {
		if Floor(r) != 0 || Ceil(r) != 0 {
			t.Error(r, Floor(r), Ceil(r))
		}
	}
}

// P2.6
func TestOf(t *testing.T) {
	for _, c := range []struct {
		r    api.Ratio
		n    int
		want int
		err  api.Errno
	}{
		{of(2, 3), 10, 6, api.OK}, {of(-2, 3), 10, -7, api.OK}, {of(2, 3), -10, -7, api.OK}, {of(-2, 3), -10, 6, api.OK}, {of(2, 3), 9, 6, api.OK}, {of(-2, 3), 9, -6, api.OK}, {of(2, 3), -9, -6, api.OK},
		{of(1, 3), greatestInt, 333333333333, api.OK}, {of(-1, 3), greatestInt, -333333333334, api.OK}, {of(0, 1), -5, 0, api.OK}, {of(0, 1), greatestInt, 0, api.OK}, {of(-7, 3), 0, 0, api.OK}, {of(1, greatestDen), 1, 0, api.OK}, {of(-1, greatestDen), 1, -1, api.OK}, {of(1, 1), greatestInt, greatestInt, api.OK}, {of(1, 1), -greatestInt, -greatestInt, api.OK}, {of(-1, 1), greatestInt, -greatestInt, api.OK}, {of(-1, 1), -greatestInt, greatestInt, api.OK},
		{of(greatestNum, 1), 1000, greatestInt, api.OK}, {of(greatestNum, 1), -1000, -greatestInt, api.OK}, {of(greatestNum, 1), 1001, 0, api.ErrOverflow}, {of(greatestNum, 1), -1001, 0, api.ErrOverflow},
		// The exact product is 10^12 and a millionth: the greatest valid integer below it exists, but none below its negation.
		{of(1000001, greatestDen), 999999000001, greatestInt, api.OK}, {of(-1000001, greatestDen), 999999000001, 0, api.ErrOverflow}, {of(1000001, greatestDen), -999999000001, 0, api.ErrOverflow}, {of(-1000001, greatestDen), -999999000001, greatestInt, api.OK},
		// The product needs more than 64 bits.
		{of(greatestNum, 1), greatestInt, 0, api.ErrOverflow}, {of(-greatestNum, 1), greatestInt, 0, api.ErrOverflow}, {of(greatestNum, 1), -greatestInt, 0, api.ErrOverflow}, {of(greatestNum-1, greatestDen), greatestInt, 0, api.ErrOverflow}, {of(999999999, greatestDen), 1000000000, 999999999000, api.OK}, {of(999999999, greatestDen), -1000000001, -1000000000000, api.OK},
		{of(1, 1), greatestInt + 1, 0, api.ErrRange}, {of(0, 1), -greatestInt - 1, 0, api.ErrRange}, {of(1, greatestDen), math.MaxInt, 0, api.ErrRange}, {of(1, 1), math.MinInt, 0, api.ErrRange},
		{api.Ratio{}, 1, 0, api.ErrRange}, {of(2, 4), 4, 0, api.ErrRange}, {of(0, 2), 0, 0, api.ErrRange}, {of(greatestNum+1, 1), greatestInt, 0, api.ErrRange},
	} {
		if got, err := Of(c.r, c.n); got != c.want || err != c.err {
			t.Error(c, got, err)
		}
	}
}

// P2.6, against exact fractions, and with invalid arguments
func TestOfExact(t *testing.T) {
	for _, n := range integers() {
		for _, r := range valid() {
			want, wantErr := 0, api.ErrRange
			if isInt(n) {
				down := floorOf(new(big.Rat).Mul(exact(r), new(big.Rat).SetInt64(int64(n))))
				want, wantErr = int(down.Int64()), api.OK
				if !down.IsInt64() || !isInt(want) {
					want, wantErr = 0, api.ErrOverflow
				}
			}
			if got, err := Of(r, n); got != want || err != wantErr {
				t.Error(r, n, got, err)
			}
		}
		for _, r := range invalid() {
			if got, err := Of(r, n); got != 0 || err != api.ErrRange {
				t.Error(r, n, got, err)
			}
		}
	}
}

// P2.7
func TestFormatAndParse(t *testing.T) {
	for _, c := range []struct {
		r    api.Ratio
		want string
	}{
		{of(3, 4), "3/4"}, {of(-5, 1), "-5"}, {of(0, 1), "0"}, {of(1, 1), "1"}, {of(-1, 2), "-1/2"}, {of(100, 7), "100/7"}, {of(greatestNum, 1), "1000000000"}, {of(-greatestNum, 999999), "-1000000000/999999"}, {of(greatestNum-1, greatestDen), "999999999/1000000"},
	} {
		if got := Format(c.r); got != c.want {
			t.Error(c.r, got)
		}
		if got, err := Parse(c.want); got != c.r || err != api.OK {
			t.Error(c.want, got, err)
		}
	}
	for _, r := range invalid() {
		if got := Format(r); got != "" {
			t.Error(r, got)
		}
	}
	for _, r := range valid() {
		if got, err := Parse(Format(r)); got != r || err != api.OK {
			t.Error(r, Format(r), got, err)
		}
	}
}

// P2.7: what is not the Format of a valid ratio is malformed, also where its terms are numbers.
func TestParseMalformed(t *testing.T) {
	for _, s := range []string{
		"", "/", "//", "-", "-/1", "1/", "/1", "/2", "1//2", "1/2/", "/1/2", "1/2/3", "1/2/1", "+3", "+1/2", "1/+2", "2/4", "3/1", "-3/1", "0/1", "0/2", "-0", "-0/1", "1/0", "0/0", "1/-2", "-1/-2", "--1/2",
		"03", "00", "03/4", "3/04", "-03/4", " 3", "3 ", "3 /4", "3/ 4", "3/4 ", "3/4\n", "\n3/4", "3.5", "3:4", "3\\4", "0.75", "1e3", "a", "a/b", "1/a", "a/1", "1/2x", "x1/2", "\x00", "1/2\x00", "1\x00/2", "\xff", "１/2", "1⁄2", "1−/2",
		"1000000000/1000000", "1000000000/2", "1000000001", "-1000000001", "1000000001/2", "1/1000001", "999999/1000000000", "1000000000001", "1/1000000000001", "1/18446744073709551618", "18446744073709551617", "18446744073709551617/2", "9223372036854775808",
		strings.Repeat("9", 5000), "1/" + strings.Repeat("9", 5000), strings.Repeat("/", 5000),
	} {
		if got, err := Parse(s); got != (api.Ratio{}) || err != api.ErrSyntax {
			t.Error(s, got, err)
		}
	}
}

// P2.7: all short strings over the characters that matter; whatever is accepted is the Format of the result.
func TestAcceptedIsFormat(t *testing.T) {
	const characters = "0123-/+ "
	accepted := 0
	level := []string{""}
	for range 5 {
		var next []string
		for _, s := range level {
			for i := range len(characters) {
				next = append(next, s+characters[i:i+1])
			}
		}
		for _, s := range next {
			r, err := Parse(s)
			if err == api.OK {
				accepted++
			}
			if err == api.OK && (!Valid(r) || Format(r) != s) || err != api.OK && (r != api.Ratio{} || err != api.ErrSyntax) {
				t.Error(s, r, err)
			}
		}
		level = next
	}
	if want := countFormats(); accepted != want {
		t.Error(accepted, want)
	}
}

// countFormats counts the valid ratios whose decimal forms, with a slash unless the denominator is 1, have the digits from 0 to 3 and at most 5 bytes.
func countFormats() int {
	count := 0
	for n := -3333; n <= 33333; n++ {
		greatest := 333
		if n < -33 || n > 333 {
			greatest = 1 // no room for a slash
		}
		for d := 1; d <= greatest; d++ {
			r := big.NewRat(int64(n), int64(d))
			s := r.RatString()
			if r.Denom().Int64() == int64(d) && len(s) <= 5 && !strings.ContainsAny(s, "456789") {
				count++
			}
		}
	}
	return count
}

// P2.8: Cmp reverses its sign with its arguments, is 0 for equal ratios only, and is transitive.
func TestTotalOrder(t *testing.T) {
	for _, a := range valid() {
		for _, b := range valid() {
			if Cmp(a, b) != -Cmp(b, a) || (Cmp(a, b) == 0) != (a == b) {
				t.Error(a, b, Cmp(a, b), Cmp(b, a))
			}
			for _, c := range valid() {
				if Cmp(a, b) <= 0 && Cmp(b, c) <= 0 && Cmp(a, c) > 0 {
					t.Error(a, b, c)
				}
			}
		}
	}
}

// P2.8: adding the same ratio to both sides preserves the order, where both sums exist.
func TestAddPreservesOrder(t *testing.T) {
	compared := 0
	for _, a := range valid() {
		for _, b := range valid() {
			for _, c := range valid() {
				left, err := Add(a, c)
				right, err2 := Add(b, c)
				if err != api.OK || err2 != api.OK {
					continue
				}
				compared++
				if Cmp(left, right) != Cmp(a, b) {
					t.Error(a, b, c)
				}
			}
		}
	}
	if compared < 10000 {
		t.Error("too few sums exist", compared)
	}
}

// P2.9: where the first result exists, the second does, because it is the operand.
func TestInverseOperations(t *testing.T) {
	for _, a := range valid() {
		for _, b := range valid() {
			if sum, err := Add(a, b); err == api.OK {
				if got, err := Sub(sum, b); got != a || err != api.OK {
					t.Error("sub of add", a, b, got, err)
				}
			}
			if difference, err := Sub(a, b); err == api.OK {
				if got, err := Add(difference, b); got != a || err != api.OK {
					t.Error("add of sub", a, b, got, err)
				}
			}
			if b.Num == 0 {
				continue
			}
			if product, err := Mul(a, b); err == api.OK {
				if got, err := Div(product, b); got != a || err != api.OK {
					t.Error("div of mul", a, b, got, err)
				}
			}
			if quotient, err := Div(a, b); err == api.OK {
				if got, err := Mul(quotient, b); got != a || err != api.OK {
					t.Error("mul of div", a, b, got, err)
				}
			}
		}
	}
}
