package whole_test

import (
	"bytes"
	"math"
	"math/big"
	"math/rand"
	"strings"
	"testing"

	"peerage/api"
	"peerage/whole"
)

// numbers returns those around each power of two, and around each power of ten, of both signs.
func numbers() []int {
	out := []int{math.MinInt, math.MinInt + 1, math.MaxInt - 1, math.MaxInt}
	for shift := range 63 {
		for near := -2; near <= 2; near++ {
			out = append(out, 1<<shift+near, -1<<shift+near)
		}
	}
	power := 1
	for range 18 {
		power *= 10
		for near := -2; near <= 2; near++ {
			out = append(out, power+near, -power+near)
		}
	}
	return out
}

// encode is P2.1 by exact integers: the bytes of the first size whose two's complement has room for n.
func encode(n int) []byte {
	for size := 1; ; size++ {
		half := new(big.Int).Exp(big.NewInt(2), big.NewInt(int64(8*size-1)), nil)
		low := new(big.Int).Neg(half)
		x := big.NewInt(int64(n))
		if x.Cmp(low) < 0 || x.Cmp(half) >= 0 {
			continue
		}
		if x.Sign() < 0 {
			x.Add(x, half).Add(x, half)
		}
		return x.FillBytes(make([]byte, size))
	}
}

// decode is the number that b states in two's complement.
func decode(b []byte) *big.Int {
	x := new(big.Int).SetBytes(b)
	if b[0] >= 128 {
		x.Sub(x, new(big.Int).Exp(big.NewInt(256), big.NewInt(int64(len(b))), nil))
	}
	return x
}

// P2.1.
func TestPut(t *testing.T) {
	for want, n := range map[string]int{
		"\x00": 0, "\x01": 1, "\x7f": 127, "\x00\x80": 128, "\x00\xff": 255, "\x01\x00": 256, "\x7f\xff": 32767, "\x00\x80\x00": 32768,
		"\xff": -1, "\x80": -128, "\xff\x7f": -129, "\xff\x00": -256, "\xfe\xff": -257, "\x80\x00": -32768, "\xff\x7f\xff": -32769,
		"\x00\xff\xff\xff\xff\xff\xff\xff": 1<<56 - 1, "\xff\x00\x00\x00\x00\x00\x00\x00": -1 << 56,
		"\x7f\xff\xff\xff\xff\xff\xff\xff": math.MaxInt, "\x80\x00\x00\x00\x00\x00\x00\x00": math.MinInt,
	} {
		if b := whole.Put(n); string(b) != want {
			t.Errorf("%d: %x instead of %x", n, b, want)
		}
	}
	for _, n := range numbers() {
		if b, want := whole.Put(n), encode(n); !bytes.Equal(b, want) {
			t.Errorf("%d: %x instead of %x", n, b, want)
		}
	}
}

// P2.2.
func TestRead(t *testing.T) {
	for s, want := range map[string]int{
		"\x00": 0, "\x7f": 127, "\x80": -128, "\xff": -1, "\x00\x80": 128, "\xff\x7f": -129, "\x01\x00": 256, "\xfe\xff": -257,
		"\x7f\xff\xff\xff\xff\xff\xff\xff": math.MaxInt, "\x80\x00\x00\x00\x00\x00\x00\x00": math.MinInt,
		"\x00\x80\x00\x00\x00\x00\x00\x00": 1 << 55, "\xff\x7f\xff\xff\xff\xff\xff\xff": -1<<55 - 1,
	} {
		if n, e := whole.Read([]byte(s)); n != want || e != api.OK {
			t.Errorf("%x: %d %v instead of %d", s, n, e, want)
		}
	}
}

// P2.2: its errors, and their order.
func TestReadErrors(t *testing.T) {
	for s, want := range map[string]api.Errno{
		"": api.ErrForm, "\x00\x00": api.ErrForm, "\x00\x01": api.ErrForm, "\x00\x7f": api.ErrForm,
		"\xff\xff": api.ErrForm, "\xff\x80": api.ErrForm, "\xff\xfe": api.ErrForm, "\x00\x00\x80": api.ErrForm, "\xff\xff\x7f": api.ErrForm,
		"\x00\x7f\xff\xff\xff\xff\xff\xff": api.ErrForm, "\xff\x80\x00\x00\x00\x00\x00\x00": api.ErrForm,
		"\x00\x7f\xff\xff\xff\xff\xff\xff\xff": api.ErrForm, "\xff\x80\x00\x00\x00\x00\x00\x00\x00": api.ErrForm,
		"\x00\x80\x00\x00\x00\x00\x00\x00\x00": api.ErrBig, "\xff\x7f\xff\xff\xff\xff\xff\xff\xff": api.ErrBig,
		"\x01\x00\x00\x00\x00\x00\x00\x00\x00": api.ErrBig, "\x80\x00\x00\x00\x00\x00\x00\x00\x00": api.ErrBig,
	} {
		if n, e := whole.Read([]byte(s)); n != 0 || e != want {
			t.Errorf("%x: %d %v instead of %v", s, n, e, want)
		}
	}
	if n, e := whole.Read(nil); n != 0 || e != api.ErrForm {
		t.Errorf("nil: %d %v", n, e)
	}
	long := make([]byte, 1<<16)
	if n, e := whole.Read(long); n != 0 || e != api.ErrForm {
		t.Errorf("many zeros: %d %v", n, e)
	}
	long[0] = 1
	if n, e := whole.Read(long); n != 0 || e != api.ErrBig {
		t.Errorf("many bytes: %d %v", n, e)
	}
}

// P2.2 for each string of one to three bytes.
func TestReadAllShort(t *testing.T) {
	power := 1
	for size := 1; size <= 3; size++ {
		power *= 256
		for i := range power {
			b := []byte{byte(i >> 16), byte(i >> 8), byte(i)}[3-size:]
			want := i
			if b[0] >= 128 {
				want -= power
			}
			n, e := whole.Read(b)
			if size > 1 && (b[0] == 0 && b[1] < 128 || b[0] == 255 && b[1] >= 128) {
				if n != 0 || e != api.ErrForm {
					t.Fatalf("%x: %d %v", b, n, e)
				}
			} else if n != want || e != api.OK || !bytes.Equal(whole.Put(n), b) {
				t.Fatalf("%x: %d %v", b, n, e)
			}
		}
	}
}

// P2.2 for longer strings.
func TestReadLong(t *testing.T) {
	random := rand.New(rand.NewSource(2))
	ends := []byte{0, 1, 0x7f, 0x80, 0xfe, 0xff}
	for range 100000 {
		b := make([]byte, 1+random.Intn(10))
		for i := range b {
			b[i] = byte(random.Intn(256))
			if i < 2 {
				b[i] = ends[random.Intn(len(ends))]
			}
		}
		want := api.OK
		if len(b) > 1 && (b[0] == 0 && b[1] < 128 || b[0] == 255 && b[1] >= 128) {
			want = api.ErrForm
		} else if len(b) > 8 {
			want = api.ErrBig
		}
		n, e := whole.Read(b)
		if e != want || e != api.OK && n != 0 || e == api.OK && decode(b).Cmp(big.NewInt(int64(n))) != 0 {
			t.Fatalf("%x: %d %v", b, n, e)
		}
	}
}

// P2.3.
func TestBool(t *testing.T) {
	if b := whole.PutBool(true); string(b) != "\xff" {
		t.Errorf("true: %x", b)
	}
	if b := whole.PutBool(false); string(b) != "\x00" {
		t.Errorf("false: %x", b)
	}
	for c := range 256 {
		want := api.ErrForm
		if c == 0 || c == 255 {
			want = api.OK
		}
		if is, e := whole.ReadBool([]byte{byte(c)}); is != (c == 255) || e != want {
			t.Errorf("%x: %v %v", c, is, e)
		}
	}
	for _, s := range []string{"", "\x00\x00", "\xff\xff", "\x00\xff", "\xff\x00", "\xff\xff\xff", "\x01\x01"} {
		if is, e := whole.ReadBool([]byte(s)); is || e != api.ErrForm {
			t.Errorf("%x: %v %v", s, is, e)
		}
	}
	if is, e := whole.ReadBool(nil); is || e != api.ErrForm {
		t.Errorf("nil: %v %v", is, e)
	}
}

// P2.4.
func TestDigits(t *testing.T) {
	for want, n := range map[string]int{
		"0": 0, "7": 7, "10": 10, "-1": -1, "-10": -10, "300": 300,
		"999999999999999999": 999999999999999999, "1000000000000000000": 1000000000000000000,
		"9223372036854775807": math.MaxInt, "-9223372036854775808": math.MinInt,
	} {
		if s := whole.Digits(n); s != want {
			t.Errorf("%q instead of %q", s, want)
		}
	}
	for _, n := range numbers() {
		if s := whole.Digits(n); s != big.NewInt(int64(n)).String() {
			t.Errorf("%d: %q", n, s)
		}
	}
}

// P2.4.
func TestReadDigits(t *testing.T) {
	for s, want := range map[string]int{
		"0": 0, "1": 1, "9": 9, "10": 10, "100": 100, "123": 123, "2147483648": 1 << 31,
		"100000000000000000": 100000000000000000, "123456789012345678": 123456789012345678, "999999999999999999": 999999999999999999,
	} {
		if n, ok := whole.ReadDigits(s); n != want || !ok {
			t.Errorf("%q: %d %v", s, n, ok)
		}
	}
	for _, s := range []string{
		"", "00", "01", "000000000000000000", "012345678901234567",
		"-", "-1", "-0", "+1", " 1", "1 ", "1a", "a1", "1_0", "1.0", "0x1", "1/", "1:", "/", ":", "1\x00", "\x001", "1\xb2", "\u0661",
		"1000000000000000000", "1234567890123456789", "9223372036854775807", "18446744073709551617", strings.Repeat("9", 1000),
	} {
		if n, ok := whole.ReadDigits(s); n != 0 || ok {
			t.Errorf("%q: %d %v", s, n, ok)
		}
	}
	for c := range 256 {
		digit := c >= '0' && c <= '9'
		if n, ok := whole.ReadDigits(string([]byte{byte(c)})); ok != digit || ok && n != c-'0' || !ok && n != 0 {
			t.Errorf("%x: %d %v", c, n, ok)
		}
	}
}

var invalid = []string{"", "-", "--", "--1", "-1-", "1-", "+1", " 1", "1 ", "-a", "x", "0x1", "1.0", "1_0", "1\x00", "\x001", "1/", "1:", "-/", "-:", "\xff", "\u0661", "1\n", "- 1"}

// plain is valid strings and what P2.5 says that Plain is for them.
var plain = map[string]string{
	"0": "0", "00": "0", "-0": "0", "-00": "0", "000000000000000000000": "0",
	"1": "1", "01": "1", "-1": "-1", "-01": "-1", "-007": "-7", "10": "10", "0010": "10", "-100": "-100", "100": "100", "101": "101",
	"9223372036854775808": "9223372036854775808", "-9223372036854775809": "-9223372036854775809",
	"0018446744073709551616": "18446744073709551616", "-000000000000000000000000000001": "-1",
	"123456789012345678901234567890": "123456789012345678901234567890", "-123456789012345678901234567890": "-123456789012345678901234567890",
}

// P2.5.
func TestValid(t *testing.T) {
	for s := range plain {
		if !whole.Valid(s) {
			t.Errorf("%q is valid", s)
		}
	}
	for _, s := range invalid {
		if whole.Valid(s) {
			t.Errorf("%q is not valid", s)
		}
	}
	for c := range 256 {
		digit := c >= '0' && c <= '9'
		for _, around := range []string{"", "-", "0", "-5"} {
			s := around + string([]byte{byte(c)})
			if whole.Valid(s) != digit {
				t.Errorf("%q", s)
			}
			if whole.Valid(s+"0") != (digit || s == "-") {
				t.Errorf("%q", s+"0")
			}
		}
	}
}

// P2.5.
func TestPlain(t *testing.T) {
	for s, want := range plain {
		if got := whole.Plain(s); got != want {
			t.Errorf("%q: %q instead of %q", s, got, want)
		}
	}
	for _, s := range invalid {
		if got := whole.Plain(s); got != "" {
			t.Errorf("%q: %q", s, got)
		}
	}
	for _, n := range numbers() {
		s := big.NewInt(int64(n)).String()
		if got := whole.Plain(s); got != s {
			t.Errorf("%q: %q", s, got)
		}
	}
}

// P2.5.
func TestCompare(t *testing.T) {
	ordered := []string{"x", "-123456789012345678901234567890", "-100", "-99", "-10", "-2", "-1", "0", "1", "2", "10", "99", "100", "123456789012345678901234567890"}
	for i, a := range ordered {
		for j, b := range ordered {
			want := 0
			if i < j {
				want = -1
			} else if i > j {
				want = 1
			}
			if got := whole.Compare(a, b); got != want {
				t.Errorf("%q and %q: %d", a, b, got)
			}
		}
	}
	for _, pair := range [][2]string{{"0", "-0"}, {"00", "-000"}, {"1", "0001"}, {"-1", "-0001"}, {"-10", "-010"}, {"", "x"}, {"-", "+1"}, {"1a", "2a"}} {
		if whole.Compare(pair[0], pair[1]) != 0 || whole.Compare(pair[1], pair[0]) != 0 {
			t.Errorf("%q and %q are equal", pair[0], pair[1])
		}
	}
	for _, bad := range invalid {
		for good := range plain {
			if whole.Compare(bad, good) != -1 || whole.Compare(good, bad) != 1 {
				t.Errorf("%q is less than %q", bad, good)
			}
		}
	}
}

// texts returns all strings of up to size of these bytes.
func texts(size int) []string {
	out := []string{""}
	for from := 0; size > 0; size-- {
		to := len(out)
		for _, s := range out[from:to] {
			for _, c := range "-019x" {
				out = append(out, s+string(c))
			}
		}
		from = to
	}
	return out
}

// model returns the number of s, nil if it is not valid.
func model(s string) *big.Int {
	digits := strings.TrimPrefix(s, "-")
	if digits == "" || strings.Trim(digits, "0123456789") != "" {
		return nil
	}
	x, _ := new(big.Int).SetString(s, 10)
	return x
}

// compareModels is P2.5's order.
func compareModels(x, y *big.Int) int {
	if x != nil && y != nil {
		return x.Cmp(y)
	}
	if x == nil && y == nil {
		return 0
	}
	if x == nil {
		return -1
	}
	return 1
}

// P2.5 and P2.6: Compare is the order of the numbers, which is total, and 0 exactly where Plain is the same.
func TestCompareIsOrder(t *testing.T) {
	all := texts(4)
	for _, a := range all {
		x := model(a)
		if whole.Valid(a) != (x != nil) {
			t.Fatalf("%q: %v", a, whole.Valid(a))
		}
		if x != nil && whole.Plain(a) != x.String() || x == nil && whole.Plain(a) != "" {
			t.Fatalf("%q: %q", a, whole.Plain(a))
		}
		for _, b := range all {
			got := whole.Compare(a, b)
			if got != compareModels(x, model(b)) || (got == 0) != (whole.Plain(a) == whole.Plain(b)) || got != -whole.Compare(b, a) {
				t.Fatalf("%q and %q: %d", a, b, got)
			}
		}
	}
}

// P2.6.
func TestRoundTrip(t *testing.T) {
	for _, n := range numbers() {
		if m, e := whole.Read(whole.Put(n)); m != n || e != api.OK {
			t.Errorf("%d: %d %v", n, m, e)
		}
		m, ok := whole.ReadDigits(whole.Digits(n))
		if fits := n >= 0 && n < 1e18; ok != fits || ok && m != n || !ok && m != 0 {
			t.Errorf("digits of %d: %d %v", n, m, ok)
		}
		if s := whole.Digits(n); !whole.Valid(s) || whole.Plain(s) != s {
			t.Errorf("%q is valid and plain", s)
		}
	}
	for _, is := range []bool{false, true} {
		if was, e := whole.ReadBool(whole.PutBool(is)); was != is || e != api.OK {
			t.Errorf("%v: %v %v", is, was, e)
		}
	}
}

// Rule 4: each result is memory of its own, with its spare capacity.
func TestResultsAreNew(t *testing.T) {
	puts := map[string]func() []byte{
		"\x05":     func() []byte { return whole.Put(5) },
		"\x01\x00": func() []byte { return whole.Put(256) },
		"\xff":     func() []byte { return whole.PutBool(true) },
		"\x00":     func() []byte { return whole.PutBool(false) },
	}
	for want, put := range puts {
		b := put()
		b = b[:cap(b)]
		for i := range b {
			b[i] = 'x'
		}
		if got := put(); string(got) != want {
			t.Errorf("%x instead of %x", got, want)
		}
	}
}

// Rule 8: memory after the end of a slice is not read.
func TestReadStopsAtEnd(t *testing.T) {
	b := []byte("\x00\x01\xff")
	if n, e := whole.Read(b[:1]); n != 0 || e != api.OK {
		t.Error(n, e)
	}
	if n, e := whole.Read(b[:0]); n != 0 || e != api.ErrForm {
		t.Error(n, e)
	}
	if is, e := whole.ReadBool(b[2:]); !is || e != api.OK {
		t.Error(is, e)
	}
	if is, e := whole.ReadBool(b[:1]); is || e != api.OK {
		t.Error(is, e)
	}
}
