package value_test

import (
	"math"
	"math/rand"
	"slices"
	"strings"
	"testing"
	"unsafe"

	"peerage/api"
	"peerage/schema"
	"peerage/value"
)

// syntaxes are all of them, but Name.
var syntaxes = []int{schema.Words, schema.Exact, schema.Whole, schema.Truth, schema.Octets, schema.Numeric, schema.Real, schema.Object}

// numbers are those of syntaxes, and others.
var numbers = append([]int{schema.Name, 0, 10, 11, -1, -9, 1 << 8, 1<<8 + 1, 1<<32 + 1, math.MaxInt, math.MinInt}, syntaxes...)

// samples are strings that are valid for some syntaxes, and nearly valid ones.
var samples = []string{
	"", " ", "a", "A", " A  b", "a b", "\t", "\u00ad", "É\u00a0x", "\xff", "a\xc3", "0", "-0", "00", "-007", "7", "1 2", "12", " 1", "-", "+1", "TRUE", "FALSE", "true", "TRUE ", "person", "PERSON", "2.5.6.6", "2.5.6.06", "2.5.4.3", "cn=a", "1.2.3",
	"0000000000000000", "8000000000000000", "3FF0000000000000", "bff0000000000000", "7ff0000000000000", "fff0000000000000", "7ff0000000000001", "FFFFFFFFFFFFFFFF", "0000000000000001", "00000000 0000000",
}

// wantKey holds Check and Key of v against the model.
func wantKey(t *testing.T, syntax int, v string) {
	t.Helper()
	want, wantOk := modelKey(syntax, v)
	if k, ok := value.Key(syntax, v); k != want || ok != wantOk {
		t.Errorf("Key of %d and %.60q: %.60q %v instead of %.60q %v", syntax, v, k, ok, want, wantOk)
	}
	if ok := value.Check(syntax, v); ok != wantOk {
		t.Errorf("Check of %d and %.60q: %v", syntax, v, ok)
	}
}

// wantOrder holds Equal and Order of a and b against the model.
func wantOrder(t *testing.T, syntax int, a, b string) {
	t.Helper()
	want, wantOk := modelOrder(syntax, a, b)
	if n, ok := value.Order(syntax, a, b); n != want || ok != wantOk {
		t.Errorf("Order of %d, %.60q and %.60q: %d %v instead of %d %v", syntax, a, b, n, ok, want, wantOk)
	}
	k, okA := modelKey(syntax, a)
	l, okB := modelKey(syntax, b)
	if is := value.Equal(syntax, a, b); is != (okA && okB && k == l) {
		t.Errorf("Equal of %d, %.60q and %.60q: %v", syntax, a, b, is)
	}
}

// wantSought holds Sought of v against the model, and returns what is wanted.
func wantSought(t *testing.T, syntax int, v string, p value.Parts) bool {
	t.Helper()
	want, wantOk := modelSought(syntax, v, p)
	if is, ok := value.Sought(syntax, v, p); is != want || ok != wantOk {
		t.Errorf("Sought of %d, %.60q and %.60q: %v %v instead of %v %v", syntax, v, p, is, ok, want, wantOk)
	}
	return want
}

// short returns the strings of up to size of these pieces.
func short(size int, pieces ...string) []string {
	all, level := []string{""}, []string{""}
	for range size {
		var next []string
		for _, s := range level {
			for _, piece := range pieces {
				next = append(next, s+piece)
			}
		}
		all, level = append(all, next...), next
	}
	return all
}

// byChance returns a string of at most most pieces.
func byChance(r *rand.Rand, most int, pieces ...string) string {
	s := ""
	for range r.Intn(most + 1) {
		s += pieces[r.Intn(len(pieces))]
	}
	return s
}

// P9.1: the limit.
func TestLimit(t *testing.T) {
	if api.MaxText != maxText {
		t.Error(api.MaxText)
	}
}

// P9.1: valid values.
func TestKey(t *testing.T) {
	for _, c := range []struct {
		syntax int
		v, key string
	}{
		{schema.Words, "a", "a"},
		{schema.Words, " A  b", "a b"},
		{schema.Words, "\tFoo \u00a0\r\nBar\u0085", "foo bar"},
		{schema.Words, "a\u00adb\x00c\u200b", "abc"},
		{schema.Words, " \u00ad a", "a"},
		{schema.Words, "ÀÖ×ØÞß", "àö×øþß"},
		{schema.Words, "Āſ\u212a", "Āſ\u212a"},
		{schema.Words, "\ufffd", "\ufffd"},
		{schema.Words, "0", "0"},
		{schema.Exact, " A  b", "A b"},
		{schema.Exact, "ÀÖ×ØÞß a", "ÀÖ×ØÞß a"},
		{schema.Exact, "\tFoo \u00a0\r\nBar\u0085", "Foo Bar"},
		{schema.Exact, "A\u00adB\x7f", "AB"},
		{schema.Whole, "0", "0"},
		{schema.Whole, "-0", "0"},
		{schema.Whole, "-000", "0"},
		{schema.Whole, "-007", "-7"},
		{schema.Whole, "0070", "70"},
		{schema.Whole, "123456789012345678901234567890", "123456789012345678901234567890"},
		{schema.Truth, "TRUE", "TRUE"},
		{schema.Truth, "FALSE", "FALSE"},
		{schema.Octets, "", ""},
		{schema.Octets, " A  b\x00\xff", " A  b\x00\xff"},
		{schema.Numeric, "1", "1"},
		{schema.Numeric, " 0  1 2 ", "012"},
		{schema.Real, "8000000000000000", "0000000000000000"},
		{schema.Real, "0000000000000000", "0000000000000000"},
		{schema.Real, "3FF0000000000000", "3ff0000000000000"},
		{schema.Real, "FFF8000000000000", "7ff8000000000000"},
		{schema.Real, "7ff0000000000001", "7ff8000000000000"},
		{schema.Real, "FFF0000000000000", "fff0000000000000"},
		{schema.Object, "person", "person"},
		{schema.Object, "PERSON", "person"},
		{schema.Object, "2.5.6.6", "person"},
		{schema.Object, "inetOrgPerson", "inetorgperson"},
		{schema.Object, "2.16.840.1.113730.3.2.2", "inetorgperson"},
		{schema.Object, "1.2.3", "1.2.3"},
		{schema.Object, "2.5.4.3", "2.5.4.3"},
		{schema.Object, "commonName", "commonname"},
		{schema.Object, "X-1", "x-1"},
	} {
		if k, ok := value.Key(c.syntax, c.v); k != c.key || !ok {
			t.Errorf("%d %q: %q %v", c.syntax, c.v, k, ok)
		}
		if !value.Check(c.syntax, c.v) {
			t.Errorf("%d %q", c.syntax, c.v)
		}
	}
}

// P9.1: each class has one key, whatever it is called.
func TestKeyOfClasses(t *testing.T) {
	l := schema.Classes()
	for _, c := range l {
		for _, v := range []string{c.Name, strings.ToLower(c.Name), strings.ToUpper(c.Name), c.Oid} {
			if k, ok := value.Key(schema.Object, v); k != strings.ToLower(c.Name) || classIds[k] != c.Oid || !ok {
				t.Errorf("%q: %q %v", v, k, ok)
			}
		}
	}
	if len(l) != len(classIds) {
		t.Error(len(l))
	}
	// Attributes have other names, too, but these are no classes.
	for _, a := range schema.Attributes() {
		for _, v := range []string{a.Name, a.Oid} {
			if k, ok := value.Key(schema.Object, v); k != strings.ToLower(v) || !ok {
				t.Errorf("%q: %q %v", v, k, ok)
			}
		}
	}
}

// P9.1: values that are not valid.
func TestKeyInvalid(t *testing.T) {
	for syntax, l := range map[int][]string{
		schema.Words:   {"", " ", "\t \u00a0\u0085", "\u00ad\u200b\x00", " \x7f ", "\xff", "a\xc3", "\xed\xa0\x80", "\xc0\x80", "a\xf4\x90\x80\x80b"},
		schema.Exact:   {"", " ", "\t \u00a0\u0085", "\u00ad\u200b\x00", " \x7f ", "\xff", "a\xc3", "\xed\xa0\x80", "\xc0\x80", "a\xf4\x90\x80\x80b"},
		schema.Whole:   {"", "-", "+1", "--1", "1-", " 1", "1 ", "1 2", "a", "1.0", "1e3", "0x1", "1_0", "٣", "1\x00", "TRUE"},
		schema.Truth:   {"", "true", "True", "TRUE ", " TRUE", "T", "TRUEFALSE", "false", "0", "1", "FALSE\x00", "tRUE", "FALSÉ"},
		schema.Numeric: {"", " ", "   ", "a", "1a", "-1", "1\t2", "1\u00a02", "1-2", "+49 1", "1\x00", "٣", "\xff"},
		schema.Real:    {"", "0", "1.5", "NaN", "000000000000000", "00000000000000000", "+000000000000000", "000000000000000g", "0x00000000000000", "0000_0000_000000", " 000000000000000", "000000000000000 ", "00000000000000\xc3\xa9"},
		schema.Object:  {"", " ", "person ", " person", "a b", "a_b", "1", "1.", ".1", "1.2.", "3.1", "1.40", "0.40", "01.2", "1.02", "2.5.6.06", "1a", "-a", "a.b", "cn;x", "é", "pers\u00f6n", "per\u017fon", "person\x00", "2.5.6.6 ", "2.99999999999"},
		schema.Name:    {"", "cn=a", "o=x", "a", " ", "TRUE", "0", "2.5.6.6", "0000000000000000"},
	} {
		for _, v := range l {
			if k, ok := value.Key(syntax, v); k != "" || ok {
				t.Errorf("%d %q: %q %v", syntax, v, k, ok)
			}
			if value.Check(syntax, v) {
				t.Errorf("%d %q", syntax, v)
			}
		}
	}
}

// P9.1 to P9.4: Name and numbers that are not those of syntaxes have no values.
func TestNoSyntax(t *testing.T) {
	for _, syntax := range numbers {
		if slices.Contains(syntaxes, syntax) {
			continue
		}
		for _, v := range append(samples, "o=x", "cn=a,o=x") {
			if k, ok := value.Key(syntax, v); k != "" || ok || value.Check(syntax, v) || value.Equal(syntax, v, v) {
				t.Errorf("%d %q: %q %v", syntax, v, k, ok)
			}
			if n, ok := value.Order(syntax, v, v); n != 0 || ok {
				t.Errorf("%d %q: %d %v", syntax, v, n, ok)
			}
			if is, ok := value.Sought(syntax, v, value.Parts{}); is || ok {
				t.Errorf("%d %q: %v %v", syntax, v, is, ok)
			}
		}
	}
}

// long are values of n bytes by their syntaxes.
func long(n int) map[int][]string {
	return map[int][]string{
		schema.Words:   {strings.Repeat("a", n), strings.Repeat(" ", n-1) + "A", strings.Repeat("É", n/2) + strings.Repeat("x", n%2), "b" + strings.Repeat("\x00", n-1), strings.Repeat("a ", n/2) + strings.Repeat("a", n%2)},
		schema.Exact:   {strings.Repeat("a", n), strings.Repeat(" ", n-1) + "A", strings.Repeat("É", n/2) + strings.Repeat("x", n%2), "b" + strings.Repeat("\x00", n-1)},
		schema.Whole:   {strings.Repeat("9", n), "-" + strings.Repeat("1", n-1), strings.Repeat("0", n-1) + "1", strings.Repeat("0", n)},
		schema.Octets:  {strings.Repeat("a", n), strings.Repeat("\xff", n)},
		schema.Numeric: {strings.Repeat("9", n), strings.Repeat(" ", n-1) + "0", strings.Repeat("1 ", n/2) + strings.Repeat(" ", n%2)},
	}
}

// P9.1: values of MaxText bytes, and longer ones, also where their keys are shorter.
func TestLength(t *testing.T) {
	for _, n := range []int{2, 3, maxText - 1, maxText, maxText + 1, maxText + 2, 2 * maxText, 1 << 20} {
		for syntax, l := range long(n) {
			for _, v := range l {
				if value.Check(syntax, v) != (n <= maxText) || len(v) != n {
					t.Errorf("%d, %d bytes: %.10q", syntax, n, v)
				}
				if n <= 2*maxText {
					wantKey(t, syntax, v)
					wantOrder(t, syntax, v, v)
					wantOrder(t, syntax, v, "1")
					wantOrder(t, syntax, "1", v)
				}
				if is, ok := value.Sought(syntax, v, value.Parts{}); ok != (n <= maxText && (syntax == schema.Words || syntax == schema.Exact || syntax == schema.Numeric)) || is != ok {
					t.Errorf("%d, %d bytes: %.10q: %v %v", syntax, n, v, is, ok)
				}
			}
		}
	}
	for _, n := range []int{1, 64, 65, maxText, maxText + 1, 1 << 20} {
		if v := strings.Repeat("a", n); value.Check(schema.Object, v) != (n <= 64) || value.Check(schema.Real, v) {
			t.Error(n)
		}
	}
	for _, arcs := range []int{1, 2, 16, 17, maxText} {
		if v := "2" + strings.Repeat(".1", arcs-1); value.Check(schema.Object, v) != (arcs >= 2 && arcs <= 16) {
			t.Error(arcs)
		}
	}
}

// P9.1: all short strings, for all numbers.
func TestKeyOfShort(t *testing.T) {
	for _, v := range short(4, "a", "B", " ", "\t", "\u00ad", "É", "\xff", "0", "1", "-", ".") {
		for _, syntax := range numbers {
			wantKey(t, syntax, v)
		}
	}
}

// P9.1: each byte in each place of some values, and each value without some byte.
func TestKeyOfNearly(t *testing.T) {
	for _, v := range samples {
		for at := range len(v) {
			for _, syntax := range syntaxes {
				wantKey(t, syntax, v[:at]+v[at+1:])
				for c := range 256 {
					wantKey(t, syntax, v[:at]+string([]byte{byte(c)})+v[at+1:])
					wantKey(t, syntax, v[:at]+string([]byte{byte(c)})+v[at:])
				}
			}
		}
	}
}

// P9.1: each character, alone, within and at the ends of others.
func TestKeyOfEachCharacter(t *testing.T) {
	for c := range rune(0x110000) {
		// The model is slow, and above these nothing is special.
		if c > 0x300 && c%7 != 0 && (c < 0x2000 || c > 0x2100) || c >= 0xd800 && c <= 0xdfff {
			continue
		}
		for _, v := range []string{string(c), "A" + string(c) + " B", string(c) + "A", "A " + string(c)} {
			wantKey(t, schema.Words, v)
			wantKey(t, schema.Exact, v)
		}
	}
}

// P9.2.
func TestEqual(t *testing.T) {
	for _, c := range []struct {
		syntax int
		a, b   string
		want   bool
	}{
		{schema.Words, "A  b", " a B ", true},
		{schema.Words, "a b", "ab", false},
		{schema.Words, "É", "é", true},
		{schema.Words, "É", "E", false},
		{schema.Words, "", "", false},
		{schema.Words, " ", " ", false},
		{schema.Words, "\xff", "\xff", false},
		{schema.Exact, "A  b", " A b ", true},
		{schema.Exact, "a", "A", false},
		{schema.Whole, "007", "7", true},
		{schema.Whole, "-0", "0", true},
		{schema.Whole, "-7", "7", false},
		{schema.Whole, "x", "x", false},
		{schema.Whole, "x", "7", false},
		{schema.Whole, "7", "", false},
		{schema.Truth, "TRUE", "TRUE", true},
		{schema.Truth, "TRUE", "FALSE", false},
		{schema.Truth, "true", "true", false},
		{schema.Octets, "", "", true},
		{schema.Octets, "a", "A", false},
		{schema.Octets, "a ", "a", false},
		{schema.Numeric, "1 2", "12", true},
		{schema.Numeric, "012", "12", false},
		{schema.Numeric, "", "", false},
		{schema.Real, "8000000000000000", "0000000000000000", true},
		{schema.Real, "7ff0000000000001", "ffffffffffffffff", true},
		{schema.Real, "7FF0000000000000", "7ff0000000000000", true},
		{schema.Real, "7ff0000000000000", "fff0000000000000", false},
		{schema.Object, "2.5.6.6", "Person", true},
		{schema.Object, "person", "device", false},
		{schema.Object, "cn", "2.5.4.3", false},
		{schema.Object, "a b", "a b", false},
		{schema.Name, "o=x", "o=x", false},
		{0, "a", "a", false},
	} {
		if is := value.Equal(c.syntax, c.a, c.b); is != c.want {
			t.Errorf("%d %q %q: %v", c.syntax, c.a, c.b, is)
		}
		if is := value.Equal(c.syntax, c.b, c.a); is != c.want {
			t.Errorf("%d %q %q: %v", c.syntax, c.b, c.a, is)
		}
	}
}

// P9.3.
func TestOrder(t *testing.T) {
	for _, c := range []struct {
		syntax int
		a, b   string
		want   int
		ok     bool
	}{
		{schema.Words, "a", "B", -1, true},
		{schema.Words, "ab", " A", 1, true},
		{schema.Words, "a b", "aa", -1, true},
		{schema.Words, "A  B", "a b", 0, true},
		{schema.Words, "z", "é", -1, true},
		{schema.Words, "\uffff", "\U00010000", -1, true},
		{schema.Words, "10", "9", -1, true},
		{schema.Words, "a", "", 0, false},
		{schema.Words, " ", "a", 0, false},
		{schema.Words, "\xff", "\xff", 0, false},
		{schema.Exact, "a", "B", 1, true},
		{schema.Exact, "B", " a", -1, true},
		{schema.Exact, " a", "a ", 0, true},
		{schema.Exact, "", "", 0, false},
		{schema.Whole, "10", "9", 1, true},
		{schema.Whole, "-10", "-9", -1, true},
		{schema.Whole, "-1", "1", -1, true},
		{schema.Whole, "-00", "0", 0, true},
		{schema.Whole, "0010", "9", 1, true},
		{schema.Whole, "99999999999999999999", "100000000000000000000", -1, true},
		{schema.Whole, "1", "", 0, false},
		{schema.Whole, "", "1", 0, false},
		{schema.Truth, "TRUE", "FALSE", 0, false},
		{schema.Truth, "TRUE", "TRUE", 0, false},
		{schema.Octets, "", "\x00", -1, true},
		{schema.Octets, "\x7f", "\x80", -1, true},
		{schema.Octets, "\xff", "a", 1, true},
		{schema.Octets, "a", "a", 0, true},
		{schema.Octets, "a", "A", 1, true},
		{schema.Numeric, "10", "9", -1, true},
		{schema.Numeric, "1 2", "12", 0, true},
		{schema.Numeric, " 2", "1 2", 1, true},
		{schema.Numeric, "1", "12", -1, true},
		{schema.Numeric, "1", "a", 0, false},
		{schema.Real, "bff0000000000000", "3ff0000000000000", -1, true},
		{schema.Real, "c000000000000000", "bff0000000000000", -1, true},
		{schema.Real, "fff0000000000000", "ffefffffffffffff", -1, true},
		{schema.Real, "7ff0000000000000", "7fefffffffffffff", 1, true},
		{schema.Real, "8000000000000000", "0000000000000000", 0, true},
		{schema.Real, "8000000000000001", "0000000000000000", -1, true},
		{schema.Real, "FFF8000000000000", "7ff0000000000000", 1, true},
		{schema.Real, "7ff0000000000001", "ffffffffffffffff", 0, true},
		{schema.Real, "3ff0000000000000", "3ff", 0, false},
		{schema.Object, "person", "device", 0, false},
		{schema.Object, "1.2.3", "1.2.3", 0, false},
		{schema.Name, "o=x", "o=x", 0, false},
		{0, "a", "b", 0, false},
	} {
		if n, ok := value.Order(c.syntax, c.a, c.b); n != c.want || ok != c.ok {
			t.Errorf("%d %q %q: %d %v", c.syntax, c.a, c.b, n, ok)
		}
		if n, ok := value.Order(c.syntax, c.b, c.a); n != -c.want || ok != c.ok {
			t.Errorf("%d %q %q: %d %v", c.syntax, c.b, c.a, n, ok)
		}
	}
}

// P9.2 and P9.3: all pairs of the samples and of short strings, for all numbers.
func TestOrderOfShort(t *testing.T) {
	for _, l := range [][]string{samples, short(2, "a", "B", " ", "\u00ad", "É", "\xff", "0", "1", "-"), short(3, "0", "1", "-", " ")} {
		for _, a := range l {
			for _, b := range l {
				for _, syntax := range numbers {
					wantOrder(t, syntax, a, b)
				}
			}
		}
	}
}

// valuesByChance returns many values, most of them valid, for a syntax.
func valuesByChance(r *rand.Rand, syntax, n int) []string {
	pieces := map[int][]string{
		schema.Words: {"a", "A", "b", "É", "é", "e", " ", "\t", "\u00a0", "\u00ad", "\x01", "\u212a"}, schema.Exact: {"a", "A", "b", "É", "é", "e", " ", "\t", "\u00a0", "\u00ad", "\x01", "\u212a"},
		schema.Whole: {"0", "1", "9", "00", "12345678"}, schema.Truth: {"TRUE", "FALSE"}, schema.Octets: {"a", "A", " ", "\x00", "\xff", "\x80"}, schema.Numeric: {"0", "1", " ", "9"},
		schema.Object: {"person", "Person", "2.5.6.6", "2.5", ".1", "X", "a-"}, schema.Real: {"0000000000000", "0000000000001", "FFFFFFFFFFFFF", "8000000000000"},
	}[syntax]
	var l []string
	for range n {
		v := byChance(r, 5, pieces...)
		switch {
		case syntax == schema.Real:
			v = []string{"7ff", "FFF", "000", "800", "3ff", "bFf", "001", "7fe"}[r.Intn(8)] + pieces[r.Intn(len(pieces))]
		case syntax == schema.Whole && r.Intn(2) == 0:
			v = "-" + v
		}
		l = append(l, v)
	}
	return l
}

// P9.1 to P9.3 by chance.
func TestOrderByChance(t *testing.T) {
	r := rand.New(rand.NewSource(9))
	for _, syntax := range syntaxes {
		seen := map[int]int{}
		l := valuesByChance(r, syntax, 200)
		for _, a := range l {
			wantKey(t, syntax, a)
			for _, b := range l {
				wantOrder(t, syntax, a, b)
				n, ok := value.Order(syntax, a, b)
				if ok {
					seen[n]++
				}
			}
		}
		if ordered := syntax != schema.Truth && syntax != schema.Object; ordered && (seen[-1] < 1000 || seen[0] < 100 || seen[1] < 1000) || !ordered && len(seen) > 0 {
			t.Error(syntax, seen)
		}
	}
}

// P9.5: Order is a total order on the keys.
func TestTotalOrder(t *testing.T) {
	r := rand.New(rand.NewSource(95))
	for _, syntax := range syntaxes {
		var l []string
		for _, v := range append(valuesByChance(r, syntax, 60), samples...) {
			if _, ok := value.Order(syntax, v, v); ok {
				l = append(l, v)
			}
		}
		order := func(a, b string) int {
			n, ok := value.Order(syntax, a, b)
			if !ok || (n == 0) != value.Equal(syntax, a, b) {
				t.Errorf("%d %q %q: %d %v", syntax, a, b, n, ok)
			}
			return n
		}
		for _, a := range l {
			for _, b := range l {
				if order(a, b) != -order(b, a) {
					t.Errorf("%d %q %q", syntax, a, b)
				}
				for _, c := range l {
					if order(a, b) <= 0 && order(b, c) <= 0 && order(a, c) > 0 {
						t.Errorf("%d %q %q %q", syntax, a, b, c)
					}
				}
			}
		}
		if len(l) < 20 && syntax != schema.Truth && syntax != schema.Object {
			t.Error(syntax, len(l))
		}
	}
}

// P9.5: a key is valid and its own key.
func TestKeyOfKey(t *testing.T) {
	r := rand.New(rand.NewSource(951))
	all := append(short(4, "a", "B", " ", "\u00ad", "É", "\xff", "0", "-", "."), samples...)
	for _, syntax := range syntaxes {
		n := 0
		for _, v := range append(valuesByChance(r, syntax, 2000), all...) {
			k, ok := value.Key(syntax, v)
			if !ok {
				continue
			}
			n++
			if again, ok := value.Key(syntax, k); again != k || !ok || !value.Equal(syntax, v, k) {
				t.Errorf("%d %q: %q %q %v", syntax, v, k, again, ok)
			}
		}
		if n < 100 {
			t.Error(syntax, n)
		}
	}
	for syntax, l := range long(maxText) {
		for _, v := range l {
			k, _ := value.Key(syntax, v)
			wantKey(t, syntax, k)
			if !value.Equal(syntax, v, k) {
				t.Errorf("%d %.10q", syntax, v)
			}
		}
	}
}

// between returns parts that are sought anywhere.
func between(l ...string) value.Parts {
	return value.Parts{Between: l}
}

// P9.4.
func TestSought(t *testing.T) {
	for _, c := range []struct {
		syntax int
		v      string
		p      value.Parts
		want   bool
	}{
		{schema.Words, "John Smith", value.Parts{First: "jo", Between: []string{"S"}, Last: "th"}, true},
		{schema.Words, "John Smith", value.Parts{}, true},
		{schema.Words, "John Smith", between(), true},
		{schema.Words, "John Smith", between("", "", ""), true},
		{schema.Words, "John Smith", between("JOHN SMITH", ""), true},
		// First is at the beginning, Last at the end.
		{schema.Words, "John Smith", value.Parts{First: "ohn"}, false},
		{schema.Words, "John Smith", value.Parts{First: "JOHN"}, true},
		{schema.Words, "John Smith", value.Parts{Last: "Smit"}, false},
		{schema.Words, "John Smith", value.Parts{Last: "SMITH"}, true},
		{schema.Words, "aba", value.Parts{First: "a", Last: "a"}, true},
		{schema.Words, "  aba\t", value.Parts{First: "a", Last: "a"}, true},
		// They do not overlap.
		{schema.Words, "a", value.Parts{First: "a", Last: "a"}, false},
		{schema.Words, "a", value.Parts{First: "a", Between: []string{"a"}}, false},
		{schema.Words, "a", value.Parts{Between: []string{"a"}, Last: "a"}, false},
		{schema.Words, "aba", value.Parts{First: "ab", Last: "ba"}, false},
		{schema.Words, "abba", value.Parts{First: "ab", Last: "ba"}, true},
		{schema.Words, "abcd", value.Parts{First: "ab", Between: []string{"bc"}}, false},
		{schema.Words, "abcd", value.Parts{Between: []string{"bc"}, Last: "cd"}, false},
		{schema.Words, "abcd", value.Parts{First: "abcd", Last: "abcd"}, false},
		{schema.Words, "abcd", value.Parts{First: "abcd", Between: []string{"", ""}, Last: ""}, true},
		// In order, each after the one before.
		{schema.Words, "abc", between("a", "b", "c"), true},
		{schema.Words, "abc", between("b", "a"), false},
		{schema.Words, "abc", between("a", "a"), false},
		{schema.Words, "aba", between("a", "a"), true},
		{schema.Words, "aaa", between("aa", "a"), true},
		{schema.Words, "aaa", between("aa", "aa"), false},
		{schema.Words, "aab", between("ab"), true},
		{schema.Words, "abab", value.Parts{Between: []string{"ab"}, Last: "ab"}, true},
		{schema.Words, "abxab", value.Parts{First: "ab", Between: []string{"x"}, Last: "ab"}, true},
		{schema.Words, "xab", value.Parts{First: "x", Between: []string{"x"}, Last: "b"}, false},
		{schema.Words, "abc", between("abcd"), false},
		{schema.Words, "abc", value.Parts{First: "abcd"}, false},
		{schema.Words, "abc", value.Parts{Last: "xabc"}, false},
		// Words are folded, but white space at the ends of parts counts.
		{schema.Words, "Élan Vital", value.Parts{First: "ÉL", Between: []string{"VI"}, Last: "L"}, true},
		{schema.Words, "a b", between(" "), true},
		{schema.Words, "a b", between("\t \u00a0"), true},
		{schema.Words, "ab", between(" "), false},
		{schema.Words, " a ", between(" "), false},
		{schema.Words, "a b", between("a ", "b"), true},
		{schema.Words, "a b", between("a ", " b"), false},
		{schema.Words, "a b", between(" b "), false},
		{schema.Words, "a b c", between(" b "), true},
		{schema.Words, "a  b", between("A\t\tB"), true},
		{schema.Words, "a b", between("a\u00ad \u200bb"), true},
		{schema.Words, "ab", between("a\u00adb\x00"), true},
		{schema.Words, "ab", between("\u00ad\x00\x7f", "ab"), true},
		// A blank is removed from the beginning of First and from the end of Last, but from no other place.
		{schema.Words, "a b", value.Parts{First: " a"}, true},
		{schema.Words, "a b", value.Parts{First: " \t\u00ad a"}, true},
		{schema.Words, "a b", value.Parts{First: " a "}, true},
		{schema.Words, "ab", value.Parts{First: "a "}, false},
		{schema.Words, "a b", value.Parts{First: " "}, true},
		{schema.Words, "a b", value.Parts{Last: "b "}, true},
		{schema.Words, "a b", value.Parts{Last: "b \u00ad\r\n"}, true},
		{schema.Words, "a b", value.Parts{Last: " b "}, true},
		{schema.Words, "ab", value.Parts{Last: " b"}, false},
		{schema.Words, "ab", value.Parts{First: " ", Last: " "}, true},
		{schema.Words, "ab", value.Parts{First: " ", Between: []string{"ab"}, Last: " "}, true},
		// A part that is not valid stays as it is, and is sought as bytes.
		{schema.Words, "é", between("\xc3"), true},
		{schema.Words, "é", between("\xa9"), true},
		{schema.Words, "é", between("\xc3", "\xa9"), true},
		{schema.Words, "é", value.Parts{First: "\xc3", Last: "\xa9"}, true},
		{schema.Words, "aé", between("A\xc3"), false},
		{schema.Words, "aé", between("a\xc3"), true},
		{schema.Words, "a éb", between(" \xc3"), true},
		{schema.Words, "a éb", between("  \xc3"), false},
		{schema.Words, "a éb", between("\u00ad\xc3"), false},
		{schema.Words, "éb", value.Parts{First: " \xc3"}, true},
		{schema.Words, "éb", value.Parts{First: "  \xc3"}, false},
		{schema.Words, "éb", value.Parts{First: "\t\xc3"}, false},
		{schema.Words, "bé", value.Parts{Last: "\xa9 "}, true},
		{schema.Words, "bé", value.Parts{Last: "\xa9  "}, false},
		{schema.Words, "é", between("\xff"), false},
		// Exact: letters stay.
		{schema.Exact, "John Smith", value.Parts{First: "Jo", Between: []string{"S"}, Last: "th"}, true},
		{schema.Exact, "John Smith", value.Parts{First: "jo"}, false},
		{schema.Exact, "John Smith", value.Parts{Last: "TH"}, false},
		{schema.Exact, "John Smith", between("s"), false},
		{schema.Exact, "Élan", between("é"), false},
		{schema.Exact, "Élan", between("É"), true},
		{schema.Exact, "A b", between(" "), true},
		{schema.Exact, "Ab", between(" "), false},
		{schema.Exact, "A  b", between("A\t\u00a0\u00adb"), true},
		{schema.Exact, "A b", between("A ", " b"), false},
		{schema.Exact, "A b", value.Parts{First: " A", Last: "b "}, true},
		{schema.Exact, "A b", value.Parts{First: "\t\nA\u0085", Last: "b\u00a0\u200b "}, true},
		{schema.Exact, "Ab", value.Parts{First: "A "}, false},
		{schema.Exact, "Ab", value.Parts{Last: " b"}, false},
		{schema.Exact, "Ab", value.Parts{First: " ", Between: []string{"\u00ad"}, Last: " "}, true},
		{schema.Exact, "|", between("|"), true},
		{schema.Exact, "|", between("||"), false},
		{schema.Exact, "a|b|", value.Parts{First: "a|", Last: "b|"}, true},
		{schema.Exact, "|a|", value.Parts{First: "|", Between: []string{"a"}, Last: "|"}, true},
		{schema.Exact, "aé", between("a\xc3"), true},
		{schema.Exact, "aé", value.Parts{First: " a", Last: "\xa9 "}, true},
		{schema.Exact, "aé", value.Parts{Last: "\xa9  "}, false},
		{schema.Exact, "aé", value.Parts{First: "\ta\xc3"}, false},
		// Numeric: blanks are removed everywhere.
		{schema.Numeric, "12 34", value.Parts{First: "1 2", Last: " 4"}, true},
		{schema.Numeric, "1234", between(" 2 3 "), true},
		{schema.Numeric, "1234", between("   "), true},
		{schema.Numeric, "1234", value.Parts{First: "  1", Between: []string{"23"}, Last: "4  "}, true},
		{schema.Numeric, "1234", value.Parts{First: "12", Last: "234"}, false},
		{schema.Numeric, "1234", between("a"), false},
		{schema.Numeric, "1234", between("1\t2"), false},
		{schema.Numeric, "1234", between("1\u00ad2"), false},
		{schema.Numeric, "1234", value.Parts{First: "\xff"}, false},
		{schema.Numeric, "0", value.Parts{Last: "00"}, false},
		{schema.Numeric, " 0 0 ", value.Parts{First: "0", Last: "0"}, true},
	} {
		if is, ok := value.Sought(c.syntax, c.v, c.p); is != c.want || !ok {
			t.Errorf("%d %q %q: %v %v", c.syntax, c.v, c.p, is, ok)
		}
		wantSought(t, c.syntax, c.v, c.p)
	}
}

// P9.4: values that are not valid, and syntaxes in whose values nothing is sought.
func TestSoughtInvalid(t *testing.T) {
	for syntax, l := range map[int][]string{
		schema.Words:   {"", " ", "\u00ad", "\xff", "a\xc3", strings.Repeat("a", maxText+1)},
		schema.Exact:   {"", " ", "\u00ad", "\xff", "a\xc3", strings.Repeat("a", maxText+1)},
		schema.Numeric: {"", " ", "a", "1\t", "-1", strings.Repeat("1", maxText+1)},
		schema.Whole:   {"1", "x", ""},
		schema.Truth:   {"TRUE", "FALSE", "x"},
		schema.Octets:  {"", "a", "TRUE"},
		schema.Real:    {"0000000000000000", "x"},
		schema.Object:  {"person", "2.5.6.6", "a b"},
		schema.Name:    {"o=x", ""},
		0:              {"a", ""},
		10:             {"a", ""},
	} {
		for _, v := range l {
			for _, p := range []value.Parts{{}, {First: v}, {Last: v}, between(v), between(""), {First: "\xff"}} {
				if is, ok := value.Sought(syntax, v, p); is || ok {
					t.Errorf("%d %.20q %.20q: %v %v", syntax, v, p, is, ok)
				}
			}
		}
	}
}

// P9.4: all short values with all short parts.
func TestSoughtInShort(t *testing.T) {
	for _, c := range []struct {
		syntax int
		pieces []string
	}{
		{schema.Words, []string{"A", " "}}, {schema.Exact, []string{"A", " "}}, {schema.Numeric, []string{"1", " "}}, {schema.Words, []string{"a", "b"}}, {schema.Numeric, []string{"1", "2"}},
	} {
		parts := short(2, c.pieces...)
		lists := [][]string{nil}
		for _, s := range parts {
			lists = append(lists, []string{s})
			for _, other := range parts {
				lists = append(lists, []string{s, other})
			}
		}
		found := 0
		for _, v := range short(5, c.pieces...) {
			for _, first := range parts {
				for _, last := range parts {
					for _, l := range lists {
						if wantSought(t, c.syntax, v, value.Parts{First: first, Last: last, Between: l}) {
							found++
						}
					}
				}
			}
		}
		if found < 5000 {
			t.Error(c.syntax, found)
		}
	}
}

// partsByChance returns parts, most of which are in v at their places.
func partsByChance(r *rand.Rand, v string, pieces []string) value.Parts {
	cuts := []int{0, len(v)}
	for range 2 * r.Intn(5) {
		cuts = append(cuts, r.Intn(len(v)+1))
	}
	slices.Sort(cuts)
	var p value.Parts
	for i := 0; i+1 < len(cuts); i += 2 {
		s := v[cuts[i]:cuts[i+1]]
		if r.Intn(10) == 0 {
			s += byChance(r, 2, pieces...)
		}
		switch {
		case i == 0 && r.Intn(2) == 0:
			p.First = s
		case i+2 == len(cuts) && r.Intn(2) == 0:
			p.Last = s
		default:
			p.Between = append(p.Between, s)
		}
	}
	return p
}

// P9.4 by chance. Where the parts are valid, they are found if they are there in any arrangement.
func TestSoughtByChance(t *testing.T) {
	r := rand.New(rand.NewSource(94))
	letters := []string{"a", "A", "b", "É", "é", " ", " ", "\t", "\u00ad", "|"}
	for syntax, pieces := range map[int][]string{schema.Words: letters, schema.Exact: letters, schema.Numeric: {"1", "2", "1", " "}} {
		found := 0
		for range 40000 {
			v := byChance(r, 12, pieces...)
			p := partsByChance(r, v, pieces)
			is := wantSought(t, syntax, v, p)
			if is {
				found++
			}
			if strings.ToValidUTF8(p.First+"|"+strings.Join(p.Between, "|")+"|"+p.Last, "") != p.First+"|"+strings.Join(p.Between, "|")+"|"+p.Last {
				continue
			}
			if want, _ := modelArranged(syntax, v, p); is != want {
				t.Errorf("Sought of %d, %q and %q: %v instead of %v", syntax, v, p, is, want)
			}
		}
		if found < 8000 || found > 38000 {
			t.Error(syntax, found)
		}
	}
}

// P9.4: long parts, and many of them.
func TestSoughtLong(t *testing.T) {
	const many = 1 << 20
	v := strings.Repeat("a", maxText)
	for _, c := range []struct {
		p    value.Parts
		want bool
	}{
		{value.Parts{Between: make([]string, many)}, true},
		{value.Parts{Between: slices.Repeat([]string{"A"}, maxText)}, true},
		{value.Parts{Between: slices.Repeat([]string{"a"}, maxText+1)}, false},
		{value.Parts{Between: slices.Repeat([]string{"\u00ad"}, many), Last: "a"}, true},
		{value.Parts{Between: slices.Repeat([]string{"a"}, many)}, false},
		{value.Parts{First: v, Between: slices.Repeat([]string{""}, many)}, true},
		{value.Parts{First: v[1:], Between: []string{"a"}}, true},
		{value.Parts{First: v[1:], Between: []string{"a"}, Last: "a"}, false},
		{value.Parts{First: strings.Repeat(" ", many) + "a"}, true},
		{value.Parts{Last: v + strings.Repeat("\t ", many)}, true},
		{value.Parts{First: strings.Repeat("a", many)}, false},
		{value.Parts{Last: strings.Repeat("a", many)}, false},
		{between(strings.Repeat("a", many)), false},
		{between(strings.Repeat("\u00ad", many) + v), true},
	} {
		if is, ok := value.Sought(schema.Words, v, c.p); is != c.want || !ok {
			t.Errorf("%.20q %d %.20q: %v %v", c.p.First, len(c.p.Between), c.p.Last, is, ok)
		}
		if is, ok := value.Sought(schema.Exact, strings.Repeat("A", maxText), c.p); !ok || is && c.p.Last == "a" {
			t.Errorf("%.20q %d %.20q: %v %v", c.p.First, len(c.p.Between), c.p.Last, is, ok)
		}
		if _, ok := value.Sought(schema.Numeric, strings.Repeat("1", maxText), c.p); !ok {
			t.Errorf("%.20q %d %.20q: %v", c.p.First, len(c.p.Between), c.p.Last, ok)
		}
	}
}

// Rules 4 and 8: the parts are left as they are, and those after the end of the list are not read.
func TestArgumentsStay(t *testing.T) {
	list := []string{"B", " ", "c D", "past", "the end"}
	kept := slices.Clone(list)
	p := value.Parts{First: " A", Between: list[:3], Last: "E "}
	for range 3 {
		if is, ok := value.Sought(schema.Words, "ab c de", p); !is || !ok {
			t.Error(is, ok)
		}
		if is, ok := value.Sought(schema.Words, "ab  c de", value.Parts{First: " A", Between: list[:2], Last: "E "}); !is || !ok {
			t.Error(is, ok)
		}
		if is, ok := value.Sought(schema.Exact, "AB c DE", value.Parts{First: " A", Between: list[:1:3], Last: "E "}); !is || !ok {
			t.Error(is, ok)
		}
		if is, ok := value.Sought(schema.Numeric, "12", value.Parts{Between: list[1:2:2]}); !is || !ok {
			t.Error(is, ok)
		}
	}
	if !slices.Equal(list, kept) || p.First != " A" || p.Last != "E " || len(p.Between) != 3 || cap(p.Between) != 5 {
		t.Error(list, p)
	}
}

// Rule 4: keys are new memory, also where they are the values themselves.
func TestKeysAreNew(t *testing.T) {
	share := func(a, b string) bool {
		from, to := uintptr(unsafe.Pointer(unsafe.StringData(a))), uintptr(unsafe.Pointer(unsafe.StringData(b)))
		return a != "" && b != "" && from < to+uintptr(len(b)) && to < from+uintptr(len(a))
	}
	for _, v := range samples {
		for _, syntax := range syntaxes {
			if k, _ := value.Key(syntax, v); share(v, k) {
				t.Errorf("%d %q: %q", syntax, v, k)
			}
		}
	}
}

// Rule 5: the same arguments have the same results.
func TestRepeatable(t *testing.T) {
	for range 20 {
		for _, v := range samples {
			for _, syntax := range numbers {
				wantKey(t, syntax, v)
				wantOrder(t, syntax, v, "a")
				wantSought(t, syntax, v, value.Parts{First: "A", Between: []string{" "}})
			}
		}
	}
}
