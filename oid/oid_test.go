package oid_test

import (
	"bytes"
	"math/big"
	"math/rand"
	"regexp"
	"slices"
	"strconv"
	"strings"
	"testing"
	"unsafe"

	"peerage/api"
	"peerage/oid"
)

// greatest is the greatest number that an identifier may have.
const greatest = "9999999999"

// The limits as the document states them; TestLimits holds api's against them.
const (
	maxArcs = 16
	maxWord = 64
)

var (
	arcsForm    = regexp.MustCompile(`\A(0|[1-9][0-9]{0,9})(\.(0|[1-9][0-9]{0,9})){1,15}\z`)
	wordForm    = regexp.MustCompile(`\A[a-zA-Z][a-zA-Z0-9-]{0,63}\z`)
	optionsForm = regexp.MustCompile(`\A(;[a-zA-Z0-9-]+)*\z`)
)

// P7.2 and P7.4: the limits.
func TestLimits(t *testing.T) {
	if api.MaxArcs != maxArcs || api.MaxWord != maxWord {
		t.Error(api.MaxArcs, api.MaxWord)
	}
}

// exact returns the number of some digits.
func exact(s string) *big.Int {
	n, _ := new(big.Int).SetString(s, 10)
	return n
}

// modelNumeric is P7.2.
func modelNumeric(s string) bool {
	if !arcsForm.MatchString(s) {
		return false
	}
	l := strings.Split(s, ".")
	if l[0] == "0" || l[0] == "1" {
		return exact(l[1]).Cmp(big.NewInt(39)) <= 0
	}
	return l[0] == "2"
}

// groups returns the bytes of n: groups of seven bits, as few as possible.
func groups(n *big.Int) []byte {
	n = new(big.Int).Set(n)
	b, rest := []byte{}, new(big.Int)
	for len(b) == 0 || n.Sign() > 0 {
		n.DivMod(n, big.NewInt(128), rest)
		c := byte(rest.Int64())
		if len(b) > 0 {
			c += 128
		}
		b = slices.Insert(b, 0, c)
	}
	return b
}

// modelPut is P7.3.
func modelPut(s string) ([]byte, api.Errno) {
	if !modelNumeric(s) {
		return nil, api.ErrArg
	}
	l := strings.Split(s, ".")
	first := new(big.Int).Mul(exact(l[0]), big.NewInt(40))
	b := groups(first.Add(first, exact(l[1])))
	for _, arc := range l[2:] {
		b = append(b, groups(exact(arc))...)
	}
	return b, api.OK
}

// modelRead is P7.3: it tries the strings that b may be of.
func modelRead(b []byte) (string, api.Errno) {
	var l []*big.Int
	n := new(big.Int)
	for _, c := range b {
		n.Mul(n, big.NewInt(128)).Add(n, big.NewInt(int64(c%128)))
		if c < 128 {
			l = append(l, n)
			n = new(big.Int)
		}
	}
	for root := 0; root <= 2 && len(l) > 0; root++ {
		s := strconv.Itoa(root) + "." + new(big.Int).Sub(l[0], big.NewInt(int64(40*root))).String()
		for _, arc := range l[1:] {
			s += "." + arc.String()
		}
		if back, e := modelPut(s); e == api.OK && bytes.Equal(back, b) {
			return s, api.OK
		}
	}
	return "", api.ErrForm
}

// modelLower is P7.1.
func modelLower(s string) string {
	out := ""
	for i := 0; i < len(s); i++ {
		c := s[i : i+1]
		if at := strings.Index("ABCDEFGHIJKLMNOPQRSTUVWXYZ", c); at >= 0 {
			c = "abcdefghijklmnopqrstuvwxyz"[at : at+1]
		}
		out += c
	}
	return out
}

// modelDescribe is P7.4.
func modelDescribe(s string) (string, []string, bool) {
	end := strings.IndexByte(s+";", ';')
	kind, rest := s[:end], s[end:]
	if len(s) > maxWord || !modelNumeric(kind) && !wordForm.MatchString(kind) || !optionsForm.MatchString(rest) {
		return "", nil, false
	}
	var l []string
	for _, option := range strings.Split(rest, ";")[1:] {
		option = modelLower(option)
		at := 0
		for at < len(l) && l[at] < option {
			at++
		}
		if at == len(l) || l[at] != option {
			l = slices.Insert(l, at, option)
		}
	}
	return modelLower(kind), l, true
}

// modelText is P7.4.
func modelText(base string, options []string) string {
	for _, option := range options {
		base += ";" + option
	}
	return base
}

// wantString holds all functions of a string against the model, and reads back what they return (P7.5).
func wantString(t *testing.T, s string) {
	t.Helper()
	if got := oid.Lower(s); got != modelLower(s) {
		t.Errorf("Lower of %q: %q", s, got)
	}
	if got := oid.Word(s); got != wordForm.MatchString(s) {
		t.Errorf("Word of %q: %v", s, got)
	}
	wantIdentifier(t, s)
	wantDescription(t, s)
}

// wantIdentifier holds Numeric and Put of s against the model, and reads back what is put (P7.5).
func wantIdentifier(t *testing.T, s string) {
	t.Helper()
	if got := oid.Numeric(s); got != modelNumeric(s) {
		t.Errorf("Numeric of %q: %v", s, got)
	}
	want, wantError := modelPut(s)
	b, e := oid.Put(s)
	if !bytes.Equal(b, want) || e != wantError {
		t.Errorf("Put of %q: %x %d instead of %x %d", s, b, e, want, wantError)
	}
	if e == api.OK {
		if back, e := oid.Read(b); back != s || e != api.OK {
			t.Errorf("Read of Put of %q: %q %d", s, back, e)
		}
	}
}

// wantBytes holds Read of b against the model, and puts back what is read (P7.5).
func wantBytes(t *testing.T, b []byte) {
	t.Helper()
	want, wantError := modelRead(b)
	s, e := oid.Read(b)
	if s != want || e != wantError {
		t.Errorf("Read of %x: %q %d instead of %q %d", b, s, e, want, wantError)
	}
	if e == api.OK {
		if back, e := oid.Put(s); !bytes.Equal(back, b) || e != api.OK {
			t.Errorf("Put of Read of %x: %x %d", b, back, e)
		}
	}
}

// wantDescription holds Describe of s against the model, and describes its Text (P7.5).
func wantDescription(t *testing.T, s string) {
	t.Helper()
	wantBase, wantOptions, wantOk := modelDescribe(s)
	base, options, ok := oid.Describe(s)
	if base != wantBase || !slices.Equal(options, wantOptions) || ok != wantOk {
		t.Errorf("Describe of %q: %q %q %v instead of %q %q %v", s, base, options, ok, wantBase, wantOptions, wantOk)
	}
	if !ok {
		return
	}
	back, again, ok := oid.Describe(oid.Text(base, options))
	if back != base || !slices.Equal(again, options) || !ok {
		t.Errorf("Describe of the Text of %q: %q %q %v", s, back, again, ok)
	}
}

// eachString calls see for each string of at most size bytes of the alphabet.
func eachString(alphabet string, size int, see func(s string)) {
	level := []string{""}
	for range size + 1 {
		var next []string
		for _, s := range level {
			see(s)
			for i := range len(alphabet) {
				next = append(next, s+alphabet[i:i+1])
			}
		}
		level = next
	}
}

// P7.1.
func TestLower(t *testing.T) {
	for s, want := range map[string]string{
		"": "", "a": "a", "A": "a", "Z": "z", "CN": "cn", "lang-DE": "lang-de", "AbC;dEf": "abc;def", "ABCDEFGHIJKLMNOPQRSTUVWXYZ": "abcdefghijklmnopqrstuvwxyz",
		"@[`{": "@[`{", "0-9. _": "0-9. _", "\u00c4\u00df\u0130\u212a\u1e9e\uff21": "\u00c4\u00df\u0130\u212a\u1e9e\uff21", "A\xffB\xc3C": "a\xffb\xc3c", "\x00A\x00": "\x00a\x00", "\xc1\xda\xe1": "\xc1\xda\xe1",
		strings.Repeat("X", 1000): strings.Repeat("x", 1000),
	} {
		if got := oid.Lower(s); got != want {
			t.Errorf("%q: %q instead of %q", s, got, want)
		}
	}
	for c := range 256 {
		want := c
		if c >= 65 && c <= 90 {
			want += 32
		}
		s, lower := string([]byte{byte(c)}), string([]byte{byte(want)})
		for _, before := range []string{"", "x", "\xc3"} {
			for _, after := range []string{"", "x", "\x84"} {
				if got := oid.Lower(before + s + after); got != before+lower+after {
					t.Errorf("%q: %q", before+s+after, got)
				}
			}
		}
	}
}

// P7.2.
func TestNumeric(t *testing.T) {
	for _, s := range []string{
		"0.0", "0.39", "1.0", "1.39", "2.0", "2.39", "2.40", "2.47", "2.48", "2.999", "1.3.6.1", "2.5.4.3", "0.9.2342.19200300.100.1.25", "2.16.840.1.113730.3.1.3", "0.0.0", "1.3.40", "1.2.100",
		"2." + greatest, "1.2." + greatest, "1.2.1000000000", "1.2.2147483648", "1.2.4294967296",
		"0" + strings.Repeat(".0", maxArcs-1), "1" + strings.Repeat(".3", maxArcs-1), "2" + strings.Repeat("."+greatest, maxArcs-1),
	} {
		if !oid.Numeric(s) {
			t.Errorf("%q", s)
		}
		wantIdentifier(t, s)
	}
}

// P7.2 and P7.3: strings that are not identifiers.
func TestNumericInvalid(t *testing.T) {
	for _, s := range []string{
		"", ".", "..", "0", "1", "2", "10", "1.", ".1", "1..2", "1.2.", ".1.2", "1.2..3", "...", "1.2.3.", "1.2\x00", "\x001.2",
		"0.40", "1.40", "1.40.1", "0.100", "1." + greatest, "0.9999999999", "3.0", "3.1", "4.5", "10.1", "20.1", "39.1", "255.1", greatest + ".1",
		"01.2", "00.1", "1.03", "1.00", "1.3.01", "2.00", "2.0999999999", "1.2.00000000001", "-1.2", "+1.2", "1.-2", "1.+2", "-0.1", "1.2.-3",
		"2.10000000000", "1.2.10000000000", "1.2.99999999999", "10000000000.1", "1.2.9999999999999999999", "1.2.18446744073709551617", "1.2.340282366920938463463374607431768211457", "18446744073709551617.2", "1.18446744073709551617", "2.18446744073709551616",
		"a", "a.b", "1.a", "a.1", "1.2a", "1.2.x", "1,2", "1:2", "1/2", "1;2", "1.2;x", " 1.2", "1.2 ", "1. 2", "1 .2", "1.2\n", "0x1.2", "1.0x2", "1_0.1", "1.1_0", "1e0.1", "1.2e1", "\u0661.\u0662", "1\uff0e2", "1.\xff",
		"0" + strings.Repeat(".0", maxArcs), "1" + strings.Repeat(".3", maxArcs), "2" + strings.Repeat("."+greatest, maxArcs), "1" + strings.Repeat(".3", 1000), "1" + strings.Repeat(".3", maxArcs-1) + ".", strings.Repeat("1", 1000), "1." + strings.Repeat("1", 1000), strings.Repeat(".", 1000),
	} {
		if oid.Numeric(s) {
			t.Errorf("%q", s)
		}
		if b, e := oid.Put(s); len(b) != 0 || e != api.ErrArg {
			t.Errorf("Put of %q: %x %d", s, b, e)
		}
	}
}

// P7.2: each number of two, at the edges of what the first one permits, and of digits.
func TestNumericOfTwo(t *testing.T) {
	for first := range 50 {
		for second := range 300 {
			wantIdentifier(t, strconv.Itoa(first)+"."+strconv.Itoa(second))
			wantIdentifier(t, strconv.Itoa(first)+"."+strconv.Itoa(second)+".5")
		}
	}
	for digits := 1; digits <= 25; digits++ {
		for _, d := range []string{"1", "9"} {
			n := strings.Repeat(d, digits)
			for _, s := range []string{"2." + n, "1.2." + n, "0.0.0." + n + ".0", n + ".1", "1." + n} {
				wantIdentifier(t, s)
			}
			if got := oid.Numeric("2.3." + n); got != (digits <= 10) {
				t.Errorf("%d digits: %v", digits, got)
			}
		}
	}
	for arcs := 1; arcs <= 40; arcs++ {
		for _, n := range []string{"0", "1", "127", "128", greatest} {
			s := "2" + strings.Repeat("."+n, arcs-1)
			if got := oid.Numeric(s); got != (arcs >= 2 && arcs <= maxArcs) {
				t.Errorf("%d numbers: %v", arcs, got)
			}
			wantIdentifier(t, s)
		}
	}
}

// P7.2.
func TestWord(t *testing.T) {
	for _, s := range []string{"a", "Z", "z", "A", "cn", "CN", "a1", "a-1", "a-", "a--", "objectClass", "x-y-z", "a0123456789", strings.Repeat("a", maxWord), "Z" + strings.Repeat("9", maxWord-1), "b" + strings.Repeat("-", maxWord-1)} {
		if !oid.Word(s) {
			t.Errorf("%q", s)
		}
	}
	for _, s := range []string{
		"", "-", "1", "1a", "-a", "0", "9z", " ", " a", "a ", "a b", "a.b", "a;b", "a_b", "_a", "a\x00", "\x00", "a\n", "a\xff", "\xff", "\u00e4", "a\u00e4", "\u212a", "a\u0661", "1.2", ";", "a;", "{", "[", "@", "`", "a/", "a:", "a,",
		strings.Repeat("a", maxWord+1), strings.Repeat("a", 1000), "Z" + strings.Repeat("9", maxWord), strings.Repeat("a", maxWord-1) + " ", strings.Repeat("a", maxWord-1) + ".",
	} {
		if oid.Word(s) {
			t.Errorf("%q", s)
		}
	}
	for size := range 200 {
		if got := oid.Word(strings.Repeat("w", size)); got != (size >= 1 && size <= maxWord) {
			t.Errorf("%d letters: %v", size, got)
		}
	}
}

// P7.2 and P7.4: each byte, at the beginning, in the middle and at the end of a word, of an option and of a number.
func TestEachByte(t *testing.T) {
	for c := range 256 {
		b := string([]byte{byte(c)})
		letter := c >= 'a' && c <= 'z' || c >= 'A' && c <= 'Z'
		other := c >= '0' && c <= '9' || c == '-'
		for s, want := range map[string]bool{b: letter, b + "x": letter, "x" + b: letter || other, "x" + b + "x": letter || other, "xyz-0" + b: letter || other} {
			if got := oid.Word(s); got != want {
				t.Errorf("%q: %v", s, got)
			}
			if c == ';' {
				continue
			}
			if _, _, ok := oid.Describe(s); ok != want {
				t.Errorf("%q: %v", s, ok)
			}
		}
		for _, s := range []string{"x;" + b, "x;" + b + "y", "x;y" + b, "x;y" + b + "y", "1.2;" + b, b + "1.2", "1" + b + "2", "1.2" + b, "1.2" + b + "3", "1.2.3" + b + ";x"} {
			wantString(t, s)
		}
		for _, option := range []string{b, b + "y", "y" + b, "y" + b + "y"} {
			if c == ';' {
				continue
			}
			base, options, ok := oid.Describe("x;" + option)
			if ok != (letter || other) || ok && (base != "x" || !slices.Equal(options, []string{modelLower(option)})) || !ok && (base != "" || len(options) != 0) {
				t.Errorf("%q: %q %q %v", option, base, options, ok)
			}
		}
	}
}

// P7.3.
func TestPutAndRead(t *testing.T) {
	for s, want := range map[string]string{
		"1.3.6.1": "\x2b\x06\x01", "2.5.4.3": "\x55\x04\x03", "2.999": "\x88\x37", "0.0.128": "\x00\x81\x00",
		"0.0": "\x00", "0.39": "\x27", "1.0": "\x28", "1.39": "\x4f", "2.0": "\x50", "2.47": "\x7f", "2.48": "\x81\x00", "2.175": "\x81\x7f", "2.176": "\x82\x00",
		"2.16303": "\xff\x7f", "2.16304": "\x81\x80\x00", "1.2.0": "\x2a\x00", "1.2.127": "\x2a\x7f", "1.2.128": "\x2a\x81\x00", "1.2.255": "\x2a\x81\x7f", "1.2.256": "\x2a\x82\x00", "1.2.16383": "\x2a\xff\x7f", "1.2.16384": "\x2a\x81\x80\x00",
		"1.2.2097151": "\x2a\xff\xff\x7f", "1.2.2097152": "\x2a\x81\x80\x80\x00", "1.2.268435455": "\x2a\xff\xff\xff\x7f", "1.2.268435456": "\x2a\x81\x80\x80\x80\x00",
		"1.2.2147483647": "\x2a\x87\xff\xff\xff\x7f", "1.2.2147483648": "\x2a\x88\x80\x80\x80\x00", "1.2.4294967295": "\x2a\x8f\xff\xff\xff\x7f", "1.2.4294967296": "\x2a\x90\x80\x80\x80\x00",
		"1.2." + greatest: "\x2a\xa5\xa0\xaf\xc7\x7f", "2." + greatest: "\xa5\xa0\xaf\xc8\x4f", "2.0.0.0": "\x50\x00\x00", "2.840.113549": "\x87\x18\x86\xf7\x0d", "1.2.840.113549.1.1.11": "\x2a\x86\x48\x86\xf7\x0d\x01\x01\x0b",
		"0" + strings.Repeat(".0", maxArcs-1): strings.Repeat("\x00", maxArcs-1), "2" + strings.Repeat("."+greatest, maxArcs-1): "\xa5\xa0\xaf\xc8\x4f" + strings.Repeat("\xa5\xa0\xaf\xc7\x7f", maxArcs-2),
	} {
		if b, e := oid.Put(s); string(b) != want || e != api.OK {
			t.Errorf("%s: %x %d instead of %x", s, b, e, want)
		}
		if back, e := oid.Read([]byte(want)); back != s || e != api.OK {
			t.Errorf("%x: %q %d instead of %s", want, back, e, s)
		}
	}
}

// P7.3: bytes that are those of no identifier.
func TestReadInvalid(t *testing.T) {
	number := func(n *big.Int) string { return string(groups(n)) }
	power := func(n uint, add int64) *big.Int {
		return new(big.Int).Add(new(big.Int).Lsh(big.NewInt(1), n), big.NewInt(add))
	}
	invalid := []string{
		"", "\x80", "\x81", "\xff", "\x80\x01", "\x80\x00", "\x80\x80", "\x80\x80\x01", "\x2a\x80", "\x2a\x81", "\x2a\x80\x01", "\x2a\x80\x00", "\x2a\x80\x81\x00", "\x2a\x01\x80\x01\x01", "\x2a\x81\x80", "\x2a\x01\x81", "\x81\x80",
		number(exact("10000000080")), number(exact("99999999999")), "\x2a" + number(exact("10000000000")), "\x2a" + number(exact("99999999999")), "\x2a\x03" + number(exact("10000000000")) + "\x05",
		strings.Repeat("\x00", maxArcs), strings.Repeat("\x01", maxArcs+1), strings.Repeat("\x01", 1000), strings.Repeat("\xff", 1000), strings.Repeat("\x80", 1000), strings.Repeat("\xff", 1000) + "\x7f", strings.Repeat("\x81", 1000) + "\x00", strings.Repeat(number(exact(greatest)), maxArcs),
		"\x2a" + strings.Repeat("\x80", 9) + "\x03", "\x2a" + strings.Repeat("\x80", 20) + "\x03",
	}
	for bits := uint(34); bits < 150; bits++ {
		for _, add := range []int64{-1, 0, 1, 3, 43, 79, 80, 100} {
			invalid = append(invalid, number(power(bits, add)), "\x2a"+number(power(bits, add)), "\x2a"+number(power(bits, add))+"\x01")
		}
	}
	for _, s := range invalid {
		if got, e := oid.Read([]byte(s)); got != "" || e != api.ErrForm {
			t.Errorf("%x: %q %d", s, got, e)
		}
	}
	if got, e := oid.Read(nil); got != "" || e != api.ErrForm {
		t.Errorf("nil: %q %d", got, e)
	}
	for n := range 40 {
		if _, e := oid.Read(bytes.Repeat([]byte{5}, n)); (e == api.OK) != (n >= 1 && n <= maxArcs-1) {
			t.Errorf("%d numbers: %d", n, e)
		}
	}
}

// P7.3 and P7.5: all bytes of a short identifier.
func TestReadAllShort(t *testing.T) {
	for a := range 256 {
		wantBytes(t, []byte{byte(a)})
		for b := range 256 {
			wantBytes(t, []byte{byte(a), byte(b)})
		}
	}
	eachString("\x00\x01\x27\x28\x4f\x50\x7f\x80\x81\xa7\xff", 4, func(s string) {
		wantBytes(t, []byte(s))
	})
}

// P7.4.
func TestDescribe(t *testing.T) {
	for _, c := range []struct {
		s, base string
		options []string
	}{
		{"CN;lang-DE", "cn", []string{"lang-de"}}, {"CN;lang-DE;binary;lang-de", "cn", []string{"binary", "lang-de"}}, {"cn", "cn", nil}, {"CN", "cn", nil}, {"objectClass", "objectclass", nil}, {"x-Y-1", "x-y-1", nil},
		{"2.5.4.3", "2.5.4.3", nil}, {"2.5.4.3;Binary", "2.5.4.3", []string{"binary"}}, {"2.999", "2.999", nil}, {"0.0;0", "0.0", []string{"0"}},
		{"a;b", "a", []string{"b"}}, {"a;-", "a", []string{"-"}}, {"a;1", "a", []string{"1"}}, {"a;1-a;-1", "a", []string{"-1", "1-a"}}, {"a;--;-;---", "a", []string{"-", "--", "---"}},
		{"a;c;b;d", "a", []string{"b", "c", "d"}}, {"a;B;a;C", "a", []string{"a", "b", "c"}}, {"a;Z;a;1;-", "a", []string{"-", "1", "a", "z"}}, {"a;b;B;b;B", "a", []string{"b"}}, {"a;A;a", "a", []string{"a"}},
		{"a;bb;b;b-;b1;ba;b0", "a", []string{"b", "b-", "b0", "b1", "ba", "bb"}}, {"a;10;9;1;2", "a", []string{"1", "10", "2", "9"}}, {"cn;cn", "cn", []string{"cn"}}, {"a;x;y;x;y;x", "a", []string{"x", "y"}},
		{strings.Repeat("N", maxWord), strings.Repeat("n", maxWord), nil}, {"a;" + strings.Repeat("B", maxWord-2), "a", []string{strings.Repeat("b", maxWord-2)}}, {"cn" + strings.Repeat(";x", 31), "cn", []string{"x"}},
		{"cn;z;y;x;w;v;u;t;s;r;q;p;o;n;m;l;k;j;i;h;g;f;e;d;c;b;a;5;4;3;2;1", "cn", strings.Split("12345abcdefghijklmnopqrstuvwxyz", "")},
		{"1.2." + greatest + "." + greatest + "." + greatest + "." + greatest + "." + greatest + ".55;s", "1.2." + greatest + "." + greatest + "." + greatest + "." + greatest + "." + greatest + ".55", []string{"s"}},
	} {
		base, options, ok := oid.Describe(c.s)
		if base != c.base || !slices.Equal(options, c.options) || !ok {
			t.Errorf("%q: %q %q %v instead of %q %q", c.s, base, options, ok, c.base, c.options)
		}
		wantString(t, c.s)
	}
}

// P7.4: strings that are not descriptions.
func TestDescribeInvalid(t *testing.T) {
	for _, s := range []string{
		"", ";", ";;", ";a", "a;", "cn;", "a;;", "a;;b", "a;b;", "a;b;;c", ";a;b", "a; x", "a;x ", " a;x", "a ;x", "a;b c", "a;b_c", "a;b.c", "a;1.2", "a;b,c", "a;\u00e4", "a;b\xff", "a;b\x00", "a;b\n",
		"1a", "-a", "1", "1;b", "-;b", "1a;b", "3.1", "3.1;b", "1.40", "1.40;b", "1.2.", "1.2.;b", "01.2", "1.02;b", "2.10000000000", "2.10000000000;b", "a.b", "a.1;b", "a b", "_", "\u00e4", "a\xff", "\x00",
		strings.Repeat("n", maxWord+1), "a;" + strings.Repeat("b", maxWord-1), "cnx" + strings.Repeat(";x", 31), "cn;y" + strings.Repeat(";x", 30) + "x", "a" + strings.Repeat(";x", 1000), strings.Repeat("n", 1000), strings.Repeat(";", maxWord), "2" + strings.Repeat("."+greatest, 6),
	} {
		if base, options, ok := oid.Describe(s); base != "" || len(options) != 0 || ok {
			t.Errorf("%q: %q %q %v", s, base, options, ok)
		}
	}
	for size := range 200 {
		if size < 3 {
			continue
		}
		for _, s := range []string{strings.Repeat("n", size), "a;" + strings.Repeat("o", size-2), "1.1;" + strings.Repeat("o", max(size-4, 1))} {
			if _, _, ok := oid.Describe(s); ok != (len(s) <= maxWord) {
				t.Errorf("%d bytes: %v", len(s), ok)
			}
		}
	}
}

// P7.4.
func TestText(t *testing.T) {
	for _, c := range []struct {
		base    string
		options []string
		want    string
	}{
		{"cn", nil, "cn"}, {"cn", []string{}, "cn"}, {"cn", []string{"a"}, "cn;a"}, {"cn", []string{"a", "b"}, "cn;a;b"}, {"CN", []string{"B", "a", "B"}, "CN;B;a;B"}, {"2.5.4.3", []string{"lang-de"}, "2.5.4.3;lang-de"},
		// It takes any strings, as they are.
		{"", nil, ""}, {"", []string{""}, ";"}, {"", []string{"", ""}, ";;"}, {"a;b", []string{"c;d", ""}, "a;b;c;d;"}, {"\xff", []string{"\x00", " "}, "\xff;\x00; "}, {strings.Repeat("a", 100), []string{strings.Repeat("b", 100)}, strings.Repeat("a", 100) + ";" + strings.Repeat("b", 100)},
	} {
		if got := oid.Text(c.base, c.options); got != c.want {
			t.Errorf("%q %q: %q instead of %q", c.base, c.options, got, c.want)
		}
	}
}

// P7.1, P7.2, P7.4 and P7.5: all short strings.
func TestAllShort(t *testing.T) {
	see := func(s string) { wantString(t, s) }
	eachString("0123409.-aZ; ", 4, see)
	eachString("012349.", 6, see)
	eachString("aB1-;.", 6, see)
	eachString("aA;", 9, see)
}

// pick returns one of l by chance.
func pick[T any](r *rand.Rand, l ...T) T {
	return l[r.Intn(len(l))]
}

// arc returns a number by chance, often one at an edge.
func arc(r *rand.Rand) string {
	switch r.Intn(4) {
	case 0:
		return pick(r, "0", "1", "2", "39", "40", "79", "80", "127", "128", "16383", "16384", "2147483647", "2147483648", "4294967295", "4294967296", greatest, "10000000000", "00", "01", "")
	case 1:
		return strconv.Itoa(r.Intn(200))
	case 2:
		return strconv.Itoa(1<<r.Intn(35) + r.Intn(3) - 1)
	}
	return strconv.FormatInt(r.Int63n(10000000100), 10)
}

// identifier returns the numbers of an identifier by chance, or nearly.
func identifier(r *rand.Rand) string {
	s := pick(r, "0", "1", "2", "2", "2", "3") + "." + pick(r, "0", "5", "38", "39", "40", arc(r))
	for range r.Intn(maxArcs + 1) {
		s += "." + arc(r)
	}
	return s
}

// word returns letters, digits and hyphens by chance.
func word(r *rand.Rand, size int) string {
	b := make([]byte, 1+r.Intn(size))
	for i := range b {
		b[i] = pick(r, []byte("abAB01-zZ9")...)
	}
	return string(b)
}

// change returns s with one byte changed, put in or left out, mostly one of the alphabet.
func change(r *rand.Rand, s, alphabet string) string {
	at := r.Intn(len(s) + 1)
	c := string([]byte{pick(r, alphabet[r.Intn(len(alphabet))], byte(r.Intn(256)))})
	end := min(at+1, len(s))
	return pick(r, s[:at]+c+s[at:], s[:at]+s[end:], s[:at]+c+s[end:])
}

// P7.2, P7.3 and P7.5 for identifiers by chance, and for what is nearly one.
func TestIdentifiersByChance(t *testing.T) {
	r := rand.New(rand.NewSource(7))
	valid := 0
	for range 30000 {
		s := identifier(r)
		wantIdentifier(t, s)
		wantIdentifier(t, change(r, s, "0123456789."))
		b, e := modelPut(s)
		if e != api.OK {
			continue
		}
		valid++
		wantBytes(t, b)
		wantBytes(t, []byte(change(r, string(b), "\x00\x01\x7f\x80\x81\xff")))
		wantBytes(t, b[:r.Intn(len(b))])
	}
	if valid < 5000 {
		t.Error(valid)
	}
}

// P7.4 and P7.5 for descriptions by chance, and for what is nearly one.
func TestDescriptionsByChance(t *testing.T) {
	r := rand.New(rand.NewSource(8))
	valid := 0
	for range 50000 {
		s := pick(r, word(r, 5), word(r, 60), "1.2."+arc(r), identifier(r))
		for range r.Intn(12) {
			s += ";" + pick(r, word(r, 2), word(r, 12))
		}
		wantString(t, s)
		wantString(t, change(r, s, "aZ9-;."))
		if _, _, ok := modelDescribe(s); ok {
			valid++
		}
	}
	if valid < 10000 {
		t.Error(valid)
	}
}

// Rule 5: the options are in order each time, whatever the order of a map.
func TestDescribeIsRepeatable(t *testing.T) {
	for range 200 {
		if _, options, _ := oid.Describe("a;h;g;f;e;d;c;b;a;8;7;6;5"); strings.Join(options, "") != "5678abcdefgh" {
			t.Fatal(options)
		}
	}
}

// Rules 4 and 8: arguments are left as they are, and what comes after their ends is not read.
func TestArgumentsStay(t *testing.T) {
	memory := []byte("\x2a\x86\x48\x01\x02\x03")
	for end, want := range []api.Errno{api.ErrForm, api.OK, api.ErrForm, api.OK, api.OK, api.OK, api.OK} {
		if _, e := oid.Read(memory[:end]); e != want {
			t.Errorf("%d bytes: %d", end, e)
		}
	}
	if string(memory) != "\x2a\x86\x48\x01\x02\x03" {
		t.Errorf("%x", memory)
	}
	options := []string{"z", "A", "z", "past", "the end"}
	if s := oid.Text("cn", options[:3]); s != "cn;z;A;z" {
		t.Error(s)
	}
	if !slices.Equal(options, []string{"z", "A", "z", "past", "the end"}) {
		t.Error(options)
	}
}

// Rule 4: results are new memory, also where a string is returned as it is.
func TestResultsAreNew(t *testing.T) {
	share := func(a, b string) bool {
		from, to := uintptr(unsafe.Pointer(unsafe.StringData(a))), uintptr(unsafe.Pointer(unsafe.StringData(b)))
		return a != "" && b != "" && from < to+uintptr(len(b)) && to < from+uintptr(len(a))
	}
	for _, s := range []string{"already;letters;small", "2.5.4.3;x", "cn", "1.2", "CN;X"} {
		base, options, _ := oid.Describe(s)
		for _, part := range append(options, base, oid.Lower(s), oid.Text(s, nil)) {
			if share(s, part) {
				t.Errorf("%q: %q", s, part)
			}
		}
		if text := oid.Text(base, options); share(text, base) || text != oid.Lower(s) {
			t.Errorf("%q: %q", s, text)
		}
		options = options[:cap(options)]
		for i := range options {
			options[i] = "other"
		}
		wantString(t, s)
	}
	for _, s := range []string{"2.5.4.3", "0.0", "1.2." + greatest} {
		b, _ := oid.Put(s)
		b = b[:cap(b)]
		for i := range b {
			b[i] = 0xee
		}
		wantString(t, s)
	}
}
