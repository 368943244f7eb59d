package real_test

import (
	"fmt"
	"math"
	"math/big"
	"math/rand"
	"slices"
	"strings"
	"testing"

	"peerage/real"
)

const (
	signBit  = 1 << 63
	infBits  = 0x7ff << 52
	plainNaN = 0x7ff8000000000000
)

// ladder is the bits of numbers in ascending order; those on one rung are equal.
var ladder = [][]uint64{
	{0xfff0000000000000}, // the infinity below zero
	{0xffefffffffffffff}, // the least finite number
	{0xc340000000000001}, // below -2^53
	{0xc000000000000000}, // -2
	{0xbff0000000000001}, // below -1
	{0xbff0000000000000}, // -1
	{0xbfefffffffffffff}, // above -1
	{0x8010000000000000}, // the greatest normal number below zero
	{0x800fffffffffffff}, // beyond it
	{0x8000000000000001}, // the greatest number below zero
	{0, signBit},         // the zeros
	{0x0000000000000001}, // the least number above zero
	{0x000fffffffffffff}, // the greatest one that is not normal
	{0x0010000000000000}, // the least normal number above zero
	{0x3fefffffffffffff}, // below 1
	{0x3ff0000000000000}, // 1
	{0x3ff0000000000001}, // above 1
	{0x4000000000000000}, // 2
	{0x4340000000000001}, // above 2^53
	{0x7feffffffffffffe}, // below the greatest finite number
	{0x7fefffffffffffff}, // the greatest finite number
	{0x7ff0000000000000}, // the infinity above zero
	{plainNaN, 0x7ff8000000000001, 0x7ff0000000000001, 0x7fffffffffffffff, 0x7ff7ffffffffffff, 0xfff8000000000000, 0xfff0000000000001, 0xffffffffffffffff},
}

// modelNaN is the definition: all bits of the exponent are set, and one of the fraction.
func modelNaN(bits uint64) bool {
	return bits&^signBit > infBits
}

// modelPlain is P6.2 for bits.
func modelPlain(bits uint64) uint64 {
	switch {
	case bits == signBit:
		return 0
	case modelNaN(bits):
		return plainNaN
	}
	return bits
}

// rank is an integer for each number, such that their order is P6.3.
func rank(bits uint64) int64 {
	bits = modelPlain(bits)
	if bits&signBit != 0 {
		return -int64(bits &^ signBit)
	}
	return int64(bits)
}

// modelOrder is P6.3.
func modelOrder(a, b uint64) int {
	switch x, y := rank(a), rank(b); {
	case x < y:
		return -1
	case x > y:
		return 1
	}
	return 0
}

// randomBits returns the bits of a number by chance, often one of the ladder or near one.
func randomBits(r *rand.Rand) uint64 {
	rung := ladder[r.Intn(len(ladder))]
	switch bits := rung[r.Intn(len(rung))]; r.Intn(4) {
	case 0:
		return r.Uint64()
	case 1:
		return bits + uint64(r.Intn(9)) - 4
	case 2:
		return bits ^ 1<<r.Intn(64)
	default:
		return bits
	}
}

// same tells whether x has these bits.
func same(x float64, bits uint64) bool {
	return math.Float64bits(x) == bits
}

// exact returns a finite number as a fraction.
func exact(x float64) *big.Rat {
	return new(big.Rat).SetFloat64(x)
}

// round returns the value nearest to x; a zero has the sign that is passed.
func round(x *big.Rat, negative bool) float64 {
	near, _ := x.Float64()
	if near == 0 && negative {
		return math.Copysign(0, -1)
	}
	return near
}

// modelDivide is IEEE 754's quotient of a, which may be infinite or a NaN, and b, which is finite.
func modelDivide(a, b float64) float64 {
	switch {
	case a != a || a == 0 && b == 0:
		return math.NaN()
	case b == 0 || math.IsInf(a, 0):
		if math.Signbit(a) != math.Signbit(b) {
			return math.Inf(-1)
		}
		return math.Inf(1)
	}
	return round(new(big.Rat).Quo(exact(a), exact(b)), math.Signbit(a) != math.Signbit(b))
}

// modelAdd is IEEE 754's sum, unless both are zeros with signs.
func modelAdd(a, b float64) float64 {
	switch {
	case a != a || math.IsInf(a, 1) && math.IsInf(b, -1) || math.IsInf(a, -1) && math.IsInf(b, 1):
		return math.NaN()
	case math.IsInf(a, 0):
		return a
	case math.IsInf(b, 0):
		return b
	}
	return round(new(big.Rat).Add(exact(a), exact(b)), false)
}

// modelMean is P6.6.
func modelMean(l []float64) (float64, int) {
	sum, n := 0.0, 0
	for _, x := range l {
		if x == x {
			sum = modelAdd(sum, x)
			n++
		}
	}
	if n == 0 {
		return 0, 0
	}
	return modelDivide(sum, float64(n)), n
}

// wantNumber holds a number against another one, bit by bit, or against any NaN.
func wantNumber(t *testing.T, what string, got, want float64) {
	t.Helper()
	if want != want && got != got {
		return
	}
	if !same(got, math.Float64bits(want)) {
		t.Errorf("%s: %v (%016x) instead of %v (%016x)", what, got, math.Float64bits(got), want, math.Float64bits(want))
	}
}

// wantParsed holds Parse of sixteen digits against the bits that they give.
func wantParsed(t *testing.T, s string, bits uint64) {
	t.Helper()
	if x, ok := real.Parse(s); !ok || !same(x, bits) {
		t.Errorf("%s: %016x %v instead of %016x", s, math.Float64bits(x), ok, bits)
	}
}

// P6.1.
func TestParse(t *testing.T) {
	for s, want := range map[string]float64{
		"0000000000000000": 0, "8000000000000000": math.Copysign(0, -1), "3ff0000000000000": 1, "3FF0000000000000": 1, "bFf0000000000000": -1,
		"C000000000000000": -2, "3fe8000000000000": 0.75, "40091eb851eb851f": 3.14, "0000000000000001": 5e-324, "7fefffffffffffff": math.MaxFloat64,
		"7ff0000000000000": math.Inf(1), "fff0000000000000": math.Inf(-1), "7ff8000000000000": math.NaN(), "FFFFFFFFFFFFFFFF": math.NaN(),
	} {
		x, ok := real.Parse(s)
		wantNumber(t, s, x, want)
		if !ok {
			t.Errorf("%s: false", s)
		}
	}
	wantParsed(t, "0123456789abcdef", 0x0123456789abcdef)
	wantParsed(t, "FEDCBA9876543210", 0xfedcba9876543210)
	for _, rung := range ladder {
		for _, bits := range rung {
			wantParsed(t, fmt.Sprintf("%016x", bits), bits)
			wantParsed(t, fmt.Sprintf("%016X", bits), bits)
		}
	}
	r := rand.New(rand.NewSource(1))
	for range 10000 {
		bits := randomBits(r)
		wantParsed(t, fmt.Sprintf("%016x", bits), bits)
		wantParsed(t, fmt.Sprintf("%08x%08X", bits>>32, bits&0xffffffff), bits)
	}
}

// P6.1: what is not sixteen digits.
func TestParseInvalid(t *testing.T) {
	for _, s := range []string{
		"", "0", "1", "3ff000000000000", "3ff00000000000000", "03ff0000000000000", "3ff0000000000000\x00", " 3ff000000000000", "3ff000000000000 ",
		"3ff000000000000g", "g3ff000000000000", "0x3ff00000000000", "0X3FF00000000000", "0x3ff0000000000000", "3ff0_00000000000", "3ff0_0000_0000_0000",
		"+3ff000000000000", "-3ff000000000000", "NaN", "Inf", "+Inf", "-0", "1.5", "0o77777777777777", "1.00000000000000", "0x1p-00000000000", "3ff000000000000h", "3ff000000000000.", "3FF000000000000G",
		"\u0663ff0000000000000", "\uff13ff0000000000", "3ff00000000000\u00e4", strings.Repeat("0", 32), strings.Repeat("\x00", 16), strings.Repeat(" ", 16), strings.Repeat("f", 1000),
	} {
		if x, ok := real.Parse(s); ok || !same(x, 0) {
			t.Errorf("%q: %016x %v", s, math.Float64bits(x), ok)
		}
	}
	for n := range 40 {
		if x, ok := real.Parse(strings.Repeat("8", n)); ok != (n == 16) || !ok && !same(x, 0) {
			t.Errorf("%d digits: %v %v", n, x, ok)
		}
	}
}

// P6.1 for each byte at each place of sixteen.
func TestParseEachByte(t *testing.T) {
	for at := range 16 {
		for c := range 256 {
			b := []byte("8123456789abcdeF")
			b[at] = byte(c)
			digit := strings.IndexByte("0123456789abcdef", byte(c))
			if c >= 'A' && c <= 'F' {
				digit = c - 'A' + 10
			}
			x, ok := real.Parse(string(b))
			if digit < 0 {
				if ok || !same(x, 0) {
					t.Errorf("%q: %016x %v", b, math.Float64bits(x), ok)
				}
				continue
			}
			shift := 4 * (15 - at)
			want := uint64(0x8123456789abcdef)&^(0xf<<shift) | uint64(digit)<<shift
			if !ok || !same(x, want) {
				t.Errorf("%q: %016x %v instead of %016x", b, math.Float64bits(x), ok, want)
			}
		}
	}
}

// P6.1.
func TestText(t *testing.T) {
	for want, x := range map[string]float64{
		"0000000000000000": 0, "3ff0000000000000": 1, "bff0000000000000": -1, "c000000000000000": -2, "3fe8000000000000": 0.75, "40091eb851eb851f": 3.14,
		"0000000000000001": 5e-324, "8000000000000001": -5e-324, "0010000000000000": 0x1p-1022, "7fefffffffffffff": math.MaxFloat64, "ffefffffffffffff": -math.MaxFloat64,
		"7ff0000000000000": math.Inf(1), "fff0000000000000": math.Inf(-1), "7ff8000000000000": math.NaN(), "3fb999999999999a": 0.1,
	} {
		if s := real.Text(x); s != want {
			t.Errorf("%v: %q instead of %q", x, s, want)
		}
	}
	if s := real.Text(math.Copysign(0, -1)); s != "0000000000000000" {
		t.Errorf("the zero with a sign: %q", s)
	}
}

// P6.1 and P6.2 for bits of all kinds; P6.7: parsing Text yields Plain.
func TestTextAndPlainOfBits(t *testing.T) {
	want := func(bits uint64) {
		t.Helper()
		x, plain := math.Float64frombits(bits), modelPlain(bits)
		if got := real.Plain(x); !same(got, plain) {
			t.Errorf("Plain of %016x: %016x instead of %016x", bits, math.Float64bits(got), plain)
		}
		if s := real.Text(x); s != fmt.Sprintf("%016x", plain) {
			t.Errorf("Text of %016x: %q", bits, s)
		}
		wantParsed(t, real.Text(x), plain)
	}
	for _, rung := range ladder {
		for _, bits := range rung {
			want(bits)
		}
	}
	for shift := range 64 {
		want(1 << shift)
		want(1<<shift | signBit)
		want(1<<shift | infBits)
		want(1<<shift | infBits | signBit)
		want(1<<shift - 1)
		want(^uint64(0) << shift)
	}
	r := rand.New(rand.NewSource(2))
	for range 100000 {
		want(randomBits(r))
	}
}

// P6.2.
func TestPlain(t *testing.T) {
	for _, x := range []float64{0, math.Copysign(0, -1)} {
		if got := real.Plain(x); !same(got, 0) {
			t.Errorf("a zero: %016x", math.Float64bits(got))
		}
	}
	for _, x := range []float64{math.NaN(), -math.NaN(), math.Inf(1) - math.Inf(1), math.Float64frombits(0x7ff0000000000001), math.Float64frombits(0xffffffffffffffff)} {
		if got := real.Plain(x); !same(got, plainNaN) {
			t.Errorf("a NaN: %016x", math.Float64bits(got))
		}
	}
	for _, x := range []float64{1, -1, 0.1, 5e-324, -5e-324, math.MaxFloat64, math.Inf(1), math.Inf(-1)} {
		wantNumber(t, "another number", real.Plain(x), x)
	}
}

// wantOrder holds Order of two numbers against the model, both ways, and against Text (P6.7).
func wantOrder(t *testing.T, a, b uint64) {
	t.Helper()
	x, y := math.Float64frombits(a), math.Float64frombits(b)
	want := modelOrder(a, b)
	got, back := real.Order(x, y), real.Order(y, x)
	if got != want || back != -want {
		t.Errorf("%016x and %016x: %d, back %d, instead of %d", a, b, got, back, want)
	}
	if (got == 0) != (real.Text(x) == real.Text(y)) {
		t.Errorf("%016x and %016x: %d, but %s and %s", a, b, got, real.Text(x), real.Text(y))
	}
}

// P6.3.
func TestOrder(t *testing.T) {
	zero, nan, inf := math.Copysign(0, -1), math.NaN(), math.Inf(1)
	for _, c := range []struct {
		a, b float64
		want int
	}{
		{1, 2, -1}, {2, 1, 1}, {1, 1, 0}, {-1, 1, -1}, {-1, -2, 1}, {0.1, 0.2, -1}, {5e-324, 0, 1}, {-5e-324, zero, -1}, {0, 5e-324, -1},
		{0, 0, 0}, {0, zero, 0}, {zero, 0, 0}, {zero, zero, 0}, {zero, 1, -1}, {zero, -1, 1},
		{inf, inf, 0}, {-inf, -inf, 0}, {-inf, inf, -1}, {inf, math.MaxFloat64, 1}, {-inf, -math.MaxFloat64, -1},
		{nan, nan, 0}, {nan, -nan, 0}, {nan, inf, 1}, {inf, nan, -1}, {-nan, -inf, 1}, {-inf, -nan, -1}, {nan, 0, 1}, {0, nan, -1}, {-nan, 1, 1}, {-1, -nan, -1},
	} {
		if got := real.Order(c.a, c.b); got != c.want {
			t.Errorf("%v and %v: %d instead of %d", c.a, c.b, got, c.want)
		}
	}
}

// P6.3 and P6.7: the ladder is in order, and Order is 0 exactly on one rung.
func TestOrderOfLadder(t *testing.T) {
	for i, low := range ladder {
		for j, high := range ladder {
			want := 0
			if i < j {
				want = -1
			} else if i > j {
				want = 1
			}
			for _, a := range low {
				for _, b := range high {
					if got := real.Order(math.Float64frombits(a), math.Float64frombits(b)); got != want {
						t.Errorf("%016x and %016x: %d instead of %d", a, b, got, want)
					}
					wantOrder(t, a, b)
				}
			}
		}
	}
}

// P6.3 and P6.7 for numbers by chance: Order is that of integers, which is total.
func TestOrderByChance(t *testing.T) {
	r := rand.New(rand.NewSource(3))
	for range 200000 {
		wantOrder(t, randomBits(r), randomBits(r))
	}
}

// P6.7: what comes between others stays between them.
func TestOrderIsTransitive(t *testing.T) {
	var all []float64
	for _, rung := range ladder {
		for _, bits := range rung {
			all = append(all, math.Float64frombits(bits))
		}
	}
	for _, a := range all {
		for _, b := range all {
			for _, c := range all {
				if real.Order(a, b) <= 0 && real.Order(b, c) <= 0 && real.Order(a, c) > 0 {
					t.Errorf("%v, %v and %v", a, b, c)
				}
			}
		}
	}
}

// P6.4.
func TestRate(t *testing.T) {
	inf, nan := math.Inf(1), math.NaN()
	for _, c := range []struct {
		n, of int
		want  float64
	}{
		{3, 4, 0.75}, {-3, 4, -0.75}, {3, -4, -0.75}, {-3, -4, 0.75}, {1, 3, 1.0 / 3}, {2, 3, 2.0 / 3}, {10, 5, 2}, {7, 1, 7}, {0, 1, 0}, {0, 7, 0},
		{1, 0, inf}, {-1, 0, -inf}, {-3, 0, -inf}, {math.MaxInt, 0, inf}, {math.MinInt, 0, -inf}, {0, 0, nan},
		{0, -1, math.Copysign(0, -1)}, // as IEEE 754 divides
		{math.MaxInt, 1, 1 << 63}, {math.MinInt, 1, -1 << 63}, {math.MinInt, -1, 1 << 63}, {math.MaxInt, math.MaxInt, 1}, {math.MinInt, math.MaxInt, -1}, {1, math.MinInt, -0x1p-63},
		// The numbers are rounded before they are divided, halves to the even one.
		{1<<53 + 1, 1, 1 << 53}, {1<<53 + 3, 1, 1<<53 + 4}, {-1<<53 - 1, 1, -1 << 53}, {1<<53 + 1, 3, 3002399751580330.5}, {1, 1<<53 + 1, 0x1p-53},
		{1<<53 + 1, 1 << 53, 1}, {1 << 53, 1<<53 + 1, 1}, {1<<54 + 1, 1<<54 - 1, 1}, {1<<54 + 3, 1, 1<<54 + 4}, {1<<62 + 1<<9, 1, 1 << 62}, {1<<62 + 1<<9 + 1, 1, 1<<62 + 1<<10},
	} {
		wantNumber(t, fmt.Sprintf("%d for each of %d", c.n, c.of), real.Rate(c.n, c.of), c.want)
	}
	if real.Order(real.Rate(1, 0), real.Rate(0, 0)) != -1 {
		t.Error("an infinity is less than a NaN")
	}
	// Rule 5: which NaN it is does not depend on the machine.
	if x := real.Rate(0, 0); !same(x, plainNaN) {
		t.Errorf("0 for each of 0: %016x", math.Float64bits(x))
	}
}

// wantRate holds Rate against the model.
func wantRate(t *testing.T, n, of int) {
	t.Helper()
	a := round(new(big.Rat).SetInt64(int64(n)), false)
	b := round(new(big.Rat).SetInt64(int64(of)), false)
	wantNumber(t, fmt.Sprintf("%d for each of %d", n, of), real.Rate(n, of), modelDivide(a, b))
}

// P6.4 around each power of two, and by chance.
func TestRateOfMany(t *testing.T) {
	numbers := []int{math.MinInt, math.MinInt + 1, math.MinInt + 512, math.MaxInt - 1, math.MaxInt, math.MaxInt - 512}
	for shift := 0; shift < 63; shift += 3 {
		for near := -1; near <= 1; near++ {
			numbers = append(numbers, 1<<shift+near, -1<<shift+near)
		}
	}
	for _, n := range numbers {
		for _, of := range numbers {
			wantRate(t, n, of)
		}
	}
	r := rand.New(rand.NewSource(4))
	for range 20000 {
		wantRate(t, int(r.Uint64())>>r.Intn(64), int(r.Uint64())>>r.Intn(64))
	}
}

// P6.5.
func TestGreatest(t *testing.T) {
	zero, nan, inf := math.Copysign(0, -1), math.NaN(), math.Inf(1)
	for _, c := range []struct {
		l    []float64
		want int
	}{
		{nil, -1}, {[]float64{}, -1}, {[]float64{nan}, -1}, {[]float64{nan, -nan, nan}, -1},
		{[]float64{0}, 0}, {[]float64{-inf}, 0}, {[]float64{inf}, 0}, {[]float64{nan, -inf}, 1}, {[]float64{-inf, nan}, 0}, {[]float64{nan, inf, nan, inf}, 1},
		{[]float64{1, 2, 3}, 2}, {[]float64{3, 2, 1}, 0}, {[]float64{1, 3, 2}, 1}, {[]float64{-3, -1, -2}, 1}, {[]float64{nan, 1, 3, 3}, 2}, {[]float64{3, 3, 3}, 0}, {[]float64{-1, -1}, 0},
		{[]float64{zero, 0}, 0}, {[]float64{0, zero}, 0}, {[]float64{-1, zero, 0, -1}, 1}, {[]float64{zero, nan, 0, 5e-324}, 3}, {[]float64{-5e-324, zero}, 1},
		{[]float64{math.MaxFloat64, inf}, 1}, {[]float64{-inf, -math.MaxFloat64, -inf}, 1}, {[]float64{1, nan, 2, nan}, 2}, {[]float64{2, nan, 1, nan}, 0}, {[]float64{-nan, -1}, 1},
	} {
		if got := real.Greatest(c.l); got != c.want {
			t.Errorf("%v: %d instead of %d", c.l, got, c.want)
		}
	}
}

// P6.5 for lists by chance.
func TestGreatestByChance(t *testing.T) {
	r := rand.New(rand.NewSource(5))
	for range 20000 {
		l := make([]float64, r.Intn(12))
		for i := range l {
			l[i] = math.Float64frombits(randomBits(r))
		}
		want := slices.IndexFunc(l, func(x float64) bool {
			return x == x && !slices.ContainsFunc(l, func(y float64) bool { return y > x })
		})
		if got := real.Greatest(l); got != want {
			t.Errorf("%v: %d instead of %d", l, got, want)
		}
	}
}

// wantMean holds Mean against a number and a count.
func wantMean(t *testing.T, l []float64, want float64, count int) {
	t.Helper()
	what := fmt.Sprintf("the mean of %.100v", l)
	m, n := real.Mean(l)
	wantNumber(t, what, m, want)
	if n != count {
		t.Errorf("%s: %d of them instead of %d", what, n, count)
	}
}

// P6.6.
func TestMean(t *testing.T) {
	zero, nan, inf := math.Copysign(0, -1), math.NaN(), math.Inf(1)
	for _, c := range []struct {
		l    []float64
		want float64
		n    int
	}{
		{nil, 0, 0}, {[]float64{}, 0, 0}, {[]float64{nan}, 0, 0}, {[]float64{-nan, nan}, 0, 0},
		{[]float64{5}, 5, 1}, {[]float64{1, nan, 2}, 1.5, 2}, {[]float64{nan, -4, nan}, -4, 1}, {[]float64{1, 2, 4}, 7.0 / 3, 3}, {[]float64{1, -1}, 0, 2}, {[]float64{-1, 1}, 0, 2},
		// Starting with 0, there is no sum that is the zero with a sign.
		{[]float64{zero}, 0, 1}, {[]float64{zero, zero}, 0, 2}, {[]float64{nan, zero}, 0, 1}, {[]float64{0, zero}, 0, 2},
		{[]float64{-5e-324, 0}, zero, 2}, // as IEEE 754 divides
		{[]float64{5e-324, 0}, 0, 2}, {[]float64{5e-324, 0, 5e-324}, 5e-324, 3},
		{[]float64{inf}, inf, 1}, {[]float64{-inf, 1}, -inf, 2}, {[]float64{inf, inf}, inf, 2}, {[]float64{inf, -inf}, nan, 2}, {[]float64{-inf, 3, inf, 5}, nan, 4}, {[]float64{inf, -inf, inf}, nan, 3},
		// Each sum is rounded, from left to right.
		{[]float64{1e16, 1, -1e16}, 0, 3}, {[]float64{1e16, -1e16, 1}, 1.0 / 3, 3}, {[]float64{1, 0x1p-53, 0x1p-53}, 1.0 / 3, 3}, {[]float64{0x1p-53, 0x1p-53, 1}, (1 + 0x1p-52) / 3, 3},
		{[]float64{0.1, 0.2, 0.3}, 0x1.3333333333334p-1 / 3, 3}, {[]float64{0.3, 0.2, 0.1}, 0x1.3333333333333p-1 / 3, 3},
		// A sum may be infinite where the mean would not be.
		{[]float64{math.MaxFloat64, math.MaxFloat64}, inf, 2}, {[]float64{-math.MaxFloat64, -math.MaxFloat64}, -inf, 2}, {[]float64{math.MaxFloat64, math.MaxFloat64, -math.MaxFloat64}, inf, 3},
		{[]float64{math.MaxFloat64, -math.MaxFloat64, math.MaxFloat64}, math.MaxFloat64 / 3, 3}, {[]float64{math.MaxFloat64, math.MaxFloat64, -inf}, nan, 3},
	} {
		wantMean(t, c.l, c.want, c.n)
		want, n := modelMean(c.l)
		wantMean(t, c.l, want, n)
	}
	// Rule 5: which NaN it is does not depend on the machine.
	if m, _ := real.Mean([]float64{inf, -inf}); !same(m, plainNaN) {
		t.Errorf("the mean of both infinities: %016x", math.Float64bits(m))
	}
}

// P6.6 for lists by chance, of numbers that are far from each other and of such that are near.
func TestMeanByChance(t *testing.T) {
	r := rand.New(rand.NewSource(6))
	for range 10000 {
		l := make([]float64, r.Intn(12))
		near := r.Intn(2) == 0
		for i := range l {
			l[i] = math.Float64frombits(randomBits(r))
			if near && r.Intn(8) > 0 {
				l[i] = math.Ldexp(r.Float64()-0.5, r.Intn(6))
			}
		}
		want, n := modelMean(l)
		wantMean(t, l, want, n)
	}
}

// P6.5 and P6.6 for a long list.
func TestLongList(t *testing.T) {
	l := make([]float64, 1<<20)
	for i := range l {
		l[i] = math.NaN()
		if i%4 == 3 {
			l[i] = 0.5
		}
	}
	if at := real.Greatest(l); at != 3 {
		t.Error(at)
	}
	wantMean(t, l, 0.5, 1<<18)
}

// Rules 4 and 8: lists stay as they are, and what comes after their ends is not read.
func TestListsAreOnlyRead(t *testing.T) {
	all := []float64{math.NaN(), math.Copysign(0, -1), 1, 9, math.Inf(1)}
	before := make([]uint64, len(all))
	for i, x := range all {
		before[i] = math.Float64bits(x)
	}
	if at := real.Greatest(all[:3]); at != 2 {
		t.Error(at)
	}
	wantMean(t, all[:3], 0.5, 2)
	if at := real.Greatest(all[:0]); at != -1 {
		t.Error(at)
	}
	wantMean(t, all[:0], 0, 0)
	for i, x := range all {
		if !same(x, before[i]) {
			t.Errorf("element %d is %016x now", i, math.Float64bits(x))
		}
	}
}
