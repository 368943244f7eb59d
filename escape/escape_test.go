package escape_test

import (
	"encoding/hex"
	"math/rand"
	"strings"
	"testing"
	"unsafe"

	"peerage/escape"
)

// wantPut holds Put and Filter of s against the model, and reads back what they return (P10.5).
func wantPut(t *testing.T, s string) {
	t.Helper()
	p, f := escape.Put(s), escape.Filter(s)
	if want := modelPut(s); p != want {
		t.Errorf("Put of %q: %q instead of %q", s, p, want)
	}
	if want := modelFilter(s); f != want {
		t.Errorf("Filter of %q: %q instead of %q", s, f, want)
	}
	if v, n, ok := escape.Read(p); v != s || n != len(p) || !ok {
		t.Errorf("Read of Put of %q: %q %d %v instead of %d", s, v, n, ok, len(p))
	}
	if v, ok := escape.Unfilter(f); v != s || !ok {
		t.Errorf("Unfilter of Filter of %q: %q %v", s, v, ok)
	}
}

// wantRead holds Read of s against the model, and tells whether there is a value.
func wantRead(t *testing.T, s string) bool {
	t.Helper()
	want, size, wantOk := modelRead(s)
	if v, n, ok := escape.Read(s); v != want || n != size || ok != wantOk {
		t.Errorf("Read of %q: %q %d %v instead of %q %d %v", s, v, n, ok, want, size, wantOk)
	}
	return wantOk
}

// wantUnfilter holds Unfilter of s against the model, and tells whether there is a value.
func wantUnfilter(t *testing.T, s string) bool {
	t.Helper()
	want, wantOk := modelUnfilter(s)
	if v, ok := escape.Unfilter(s); v != want || ok != wantOk {
		t.Errorf("Unfilter of %q: %q %v instead of %q %v", s, v, ok, want, wantOk)
	}
	return wantOk
}

// wantValue holds Read of s against v and n.
func wantValue(t *testing.T, s, v string, n int) {
	t.Helper()
	if got, size, ok := escape.Read(s); got != v || size != n || !ok {
		t.Errorf("Read of %q: %q %d %v instead of %q %d", s, got, size, ok, v, n)
	}
}

// wantNone holds that Read has no value for s.
func wantNone(t *testing.T, s string) {
	t.Helper()
	if v, n, ok := escape.Read(s); v != "" || n != 0 || ok {
		t.Errorf("Read of %q: %q %d %v", s, v, n, ok)
	}
}

// eachByte calls do with each byte as a string.
func eachByte(do func(c string)) {
	for c := range 256 {
		do(string([]byte{byte(c)}))
	}
}

// short returns the strings of up to size of these pieces.
func short(size int, pieces ...string) []string {
	all, level := []string{""}, []string{""}
	for range size {
		var next []string
		for _, s := range level {
			for _, piece := range pieces {
				next = append(next, s+piece)
			}
		}
		all, level = append(all, next...), next
	}
	return all
}

// byChance returns a string of at most most pieces.
func byChance(r *rand.Rand, most int, pieces []string) string {
	var out strings.Builder
	for range r.Intn(most + 1) {
		out.WriteString(pieces[r.Intn(len(pieces))])
	}
	return out.String()
}

// pieces are what strings by chance are made of: of all that has a meaning, and of what stands beside it in the order of bytes.
var pieces = []string{
	"a", "A", "f", "F", "g", "0", "9", "/", ":", "@", "`", " ", "  ", "\t", "\n", "\x00", "\x01", "\x1f", "\x7f", "!", "\"", "#", "$", "%", "'", "(", ")", "*", "+", ",", "-", "<", "=", ">", "?", ";", "[", "\\", "]", "~",
	"\\", "\\\\", "\\ ", "\\,", "\\20", "\\5C", "\\2a", "\\2", "\\x", "#61", "\u00e9", "\u20ac", "\U0001f600", "\\c3\\a9", "\\e9", "\x80", "\xc3", "\xff",
}

// P10.1.
func TestHex(t *testing.T) {
	for s, want := range map[string]string{"": "", "a": "61", "\x00": "00", "\xff": "ff", "\x0a\xa0": "0aa0", "\x01\x23\x45\x67\x89\xab\xcd\xef": "0123456789abcdef", "\u00e9": "c3a9", "61": "3631"} {
		if h := escape.Hex(s); h != want {
			t.Errorf("%q: %q", s, h)
		}
	}
	for _, a := range short(2, "\x00", "\x09", "\x0a", "\x10", "\x7f", "\x80", "\x9f", "\xa0", "\xfa", "\xff") {
		eachByte(func(c string) {
			s := a + c
			h := escape.Hex(s)
			if want := hex.EncodeToString([]byte(s)); h != want {
				t.Errorf("Hex of %x: %q", s, h)
			}
			for _, digits := range []string{h, strings.ToUpper(h)} {
				if v, ok := escape.Unhex(digits); v != s || !ok {
					t.Errorf("Unhex of %q: %q %v", digits, v, ok)
				}
			}
		})
	}
}

// P10.1.
func TestUnhex(t *testing.T) {
	for s, want := range map[string]string{"": "", "61": "a", "00": "\x00", "0aA0": "\n\xa0", "aBCdEf": "\xab\xcd\xef", "ABCDEFabcdef": "\xab\xcd\xef\xab\xcd\xef", "0123456789": "\x01\x23\x45\x67\x89"} {
		if v, ok := escape.Unhex(s); v != want || !ok {
			t.Errorf("%q: %q %v", s, v, ok)
		}
	}
	for _, s := range []string{"6", "616", "6 ", " 6", "6162 ", " 6162", "61 62", "0x61", "g0", "0g", "G0", "0G", "6162g0", "-1", "+1", "6_16", "61\x00\x00", "\xff\xff", "\u0661", "\uff11\uff11", "\\61", "#61", "6162630"} {
		if v, ok := escape.Unhex(s); v != "" || ok {
			t.Errorf("%q: %q %v", s, v, ok)
		}
	}
}

// P10.1: all strings of two bytes, alone and after other digits.
func TestUnhexOfEachPair(t *testing.T) {
	eachByte(func(a string) {
		if v, ok := escape.Unhex(a); v != "" || ok {
			t.Errorf("%q: %q %v", a, v, ok)
		}
		eachByte(func(b string) {
			want, err := hex.DecodeString(a + b)
			if err != nil {
				want = nil
			}
			if v, ok := escape.Unhex(a + b); v != string(want) || ok != (err == nil) {
				t.Errorf("%q: %q %v", a+b, v, ok)
			}
			if v, ok := escape.Unhex("0f" + a + b); ok != (err == nil) || ok && v != "\x0f"+string(want) || !ok && v != "" {
				t.Errorf("%q: %q %v", "0f"+a+b, v, ok)
			}
		})
	})
}

// P10.2.
func TestPut(t *testing.T) {
	for s, want := range map[string]string{
		"":                   "",
		"a":                  "a",
		"a,b ":               "a\\,b\\ ",
		"\"+,;<>=\\":         "\\\"\\+\\,\\;\\<\\>\\=\\\\",
		" ":                  "\\ ",
		"  ":                 "\\ \\ ",
		"   ":                "\\  \\ ",
		" a b ":              "\\ a b\\ ",
		"#":                  "\\#",
		"##":                 "\\##",
		"a#":                 "a#",
		" #":                 "\\ #",
		"# ":                 "\\#\\ ",
		"#61":                "\\#61",
		"\\61":               "\\\\61",
		"\x00\t\n\r\x1f\x7f": "\\00\\09\\0a\\0d\\1f\\7f",
		"a\x01":              "a\\01",
		"\u00e9\u20ac":       "\u00e9\u20ac",
		"\u0080\u0085\u00a0": "\u0080\u0085\u00a0",
		"\U0001f600,":        "\U0001f600\\,",
		"\ufffd":             "\ufffd",
		"\xff":               "\\ff",
		"\x80":               "\\80",
		"\u00e9\xff":         "\\c3\\a9\\ff",
		"\u00e9,\xc3 ":       "\\c3\\a9\\,\\c3\\ ",
		"\xed\xa0\x80":       "\\ed\\a0\\80",
		"*()'/:.-_!$%&?@[]^": "*()'/:.-_!$%&?@[]^",
	} {
		if p := escape.Put(s); p != want {
			t.Errorf("%q: %q instead of %q", s, p, want)
		}
		wantPut(t, s)
	}
}

// P10.3: what is read, and where it ends.
func TestRead(t *testing.T) {
	wantValue(t, "", "", 0)
	wantValue(t, "a", "a", 1)
	wantValue(t, "a\\2cb,c", "a,b", 5)
	// It ends at the first sign that is not escaped.
	wantValue(t, ",", "", 0)
	wantValue(t, "+", "", 0)
	wantValue(t, ";", "", 0)
	wantValue(t, "a,b", "a", 1)
	wantValue(t, "a+b", "a", 1)
	wantValue(t, "a;b", "a", 1)
	wantValue(t, "a\\,b,c", "a,b", 4)
	wantValue(t, "a\\\\,b", "a\\", 3)
	wantValue(t, "a\\\\\\,b", "a\\,b", 6)
	// What comes after that does not count.
	wantValue(t, "a,\"", "a", 1)
	wantValue(t, "a,b=c", "a", 1)
	wantValue(t, "a+\\x", "a", 1)
	wantValue(t, "a,\\", "a", 1)
	wantValue(t, "a;#", "a", 1)
	// Blanks around it do not count, unless they are escaped.
	wantValue(t, " ", "", 1)
	wantValue(t, "   ,", "", 3)
	wantValue(t, "  a b  +x", "a b", 7)
	wantValue(t, "a\\ ", "a ", 3)
	wantValue(t, "a\\  ", "a ", 4)
	wantValue(t, "a  \\ ", "a   ", 5)
	wantValue(t, "a\\ \\  ", "a  ", 6)
	wantValue(t, "\\ ", " ", 2)
	wantValue(t, " \\ a", " a", 4)
	wantValue(t, "\\  a", "  a", 4)
	wantValue(t, " \\20 ", " ", 5)
	wantValue(t, "a \\20 ", "a  ", 6)
	wantValue(t, "a\\\\ ", "a\\", 4)
	wantValue(t, "\ta\n", "\ta\n", 3)
	wantValue(t, "\u00a0a\u00a0", "\u00a0a\u00a0", 5)
	// What a backslash may escape.
	wantValue(t, "\\\"\\+\\,\\;\\<\\>\\=\\#\\\\\\ ", "\"+,;<>=#\\ ", 20)
	wantValue(t, "\\41\\4a\\4A\\5c\\2C", "AJJ\\,", 15)
	wantValue(t, "\\414", "A4", 4)
	wantValue(t, "\\c3\\a9\\ff", "\u00e9\xff", 9)
	wantValue(t, "\\\\41", "\\41", 4)
	wantValue(t, "\\5c41", "\\41", 5)
	wantValue(t, "\\5c,", "\\", 3)
	// Every other byte stands for itself.
	wantValue(t, "\x00\x01\x7f\xff*()'", "\x00\x01\x7f\xff*()'", 8)
	wantValue(t, "a#", "a#", 2)
	wantValue(t, "\\#61", "#61", 4)
	wantValue(t, "\\2361", "#61", 5)
	wantValue(t, "\\20#61", " #61", 6)
	wantValue(t, "\\ #61", " #61", 5)
}

// P10.3: values in digits.
func TestReadDigits(t *testing.T) {
	wantValue(t, "#6162 ,", "ab", 6)
	wantValue(t, "#61", "a", 3)
	wantValue(t, "  #616A", "aj", 7)
	wantValue(t, "#61  +", "a", 5)
	wantValue(t, "#20", " ", 3)
	wantValue(t, "#202C2520;", " ,% ", 9)
	wantValue(t, "#5C", "\\", 3)
	wantValue(t, "#00fF", "\x00\xff", 5)
	for _, s := range []string{"#", "# ", "#,", " # ,", "#6", "#6 ", "#616", "#zz", "#6g", "#61 62", "# 61", "##61", "#61#", "#\\61", "#61\\ ", "#61\\20", "#\\", "#\\\\", "#61\\,", "#6,1", "#61=", "#61\"", "#61\t", "#\u00e9", "#\xff\xff", "#0x61"} {
		wantNone(t, s)
		wantRead(t, s)
	}
}

// P10.3: strings that have no value.
func TestReadInvalid(t *testing.T) {
	for _, s := range []string{
		// It ends at a wrong sign.
		"\"", "<", ">", "=", "a\"", "a<", "a>", "a=b", " =", "\\==", "\\\\=", "\\\"\"", "#61<", "a<,b",
		// A backslash is the last byte.
		"\\", "a\\", " \\", "\\\\\\", "\\,\\", "\\20\\", "#\\",
		// A backslash is not followed by what it may escape.
		"a\\x", "\\a", "\\4", "\\4 ", "\\4g", "\\g4", "\\4,1", "\\4\\1", "\\ 4\\", "\\ g\\g", "\\\x00", "\\\t", "\\\n", "\\*", "\\(", "\\-", "\\.", "\\'", "\\/", "\\:", "\\?", "\\!", "\\$", "\\\u00e9", "\\\xff", "\\4\u00e9", "\\x41", "\\u0041", "\\0x",
		"a\\n,b", "\\A ,",
	} {
		wantNone(t, s)
		wantRead(t, s)
	}
}

// P10.4.
func TestFilter(t *testing.T) {
	for s, want := range map[string]string{
		"":                     "",
		"a*(\\\x00":            "a\\2a\\28\\5c\\00",
		")":                    "\\29",
		"**":                   "\\2a\\2a",
		"\x01\t\n\x1f\x7f":     "\x01\t\n\x1f\x7f",
		" \"+,;<>=#&|!~'/: ":   " \"+,;<>=#&|!~'/: ",
		"\\2a":                 "\\5c2a",
		"\u00e9\u20ac\ufffd*":  "\u00e9\u20ac\ufffd\\2a",
		"\U0001f600":           "\U0001f600",
		"\xff":                 "\\ff",
		"\u00e9\xff,\x01\x80*": "\\c3\\a9\\ff,\x01\\80\\2a",
		"\xc0\x80":             "\\c0\\80",
	} {
		if f := escape.Filter(s); f != want {
			t.Errorf("%q: %q instead of %q", s, f, want)
		}
		wantPut(t, s)
	}
}

// P10.4.
func TestUnfilter(t *testing.T) {
	for s, want := range map[string]string{
		"":              "",
		"a":             "a",
		"\\2A":          "*",
		"\\2a\\28\\29":  "*()",
		"\\5c\\5C":      "\\\\",
		"\\5c2a":        "\\2a",
		"\\00\\fF":      "\x00\xff",
		"\\414":         "A4",
		"\\c3\\a9":      "\u00e9",
		" \\20 ":        "   ",
		"a=b,\"<>+;#!&": "a=b,\"<>+;#!&",
		"\x01\x7f\xff":  "\x01\x7f\xff",
		"\u00e9\xc3":    "\u00e9\xc3",
	} {
		if v, ok := escape.Unfilter(s); v != want || !ok {
			t.Errorf("%q: %q %v instead of %q", s, v, ok, want)
		}
		wantUnfilter(t, s)
	}
	for _, s := range []string{
		"*", "(", ")", "\x00", "a*", "*a", "a(b", "a)b", "a\x00b", "\\41*", "(\\41", "\\*", "\\(", "\\)", "\\\x00", "\\2*", strings.Repeat("a", 100) + "*", strings.Repeat("\u00e9", 100) + "\x00", "\xff*",
		"\\", "a\\", "\\\\", "\\4", "\\4 ", "\\4g", "\\g4", "\\ 41", "\\,", "\\ ", "\\#", "\\\"", "\\=", "\\4\\1", "\\41\\", "\\x41", "\\0x", "\\\u00e9", "\\\xff\xff",
	} {
		if v, ok := escape.Unfilter(s); v != "" || ok {
			t.Errorf("%q: %q %v", s, v, ok)
		}
		wantUnfilter(t, s)
	}
}

// P10.2, P10.4 and P10.5: each byte alone, at the ends of a string and within it, in strings that are valid UTF-8 and in others.
func TestPutEachByte(t *testing.T) {
	around := []string{"", "a", " ", "#", ",", "\u00e9", "\xc3", "\x00"}
	eachByte(func(c string) {
		for _, before := range around {
			for _, after := range around {
				wantPut(t, before+c+after)
			}
		}
		eachByte(func(d string) { wantPut(t, c+d) })
	})
}

// P10.3 and P10.4: each byte in each place of an escape, and in other places.
func TestReadEachByte(t *testing.T) {
	eachByte(func(c string) {
		for _, s := range []string{c, c + "a", "a" + c, " " + c + " ", "a" + c + "b", "a" + c + ",", "a," + c, "#" + c, "#6" + c, "#" + c + "1", "#61" + c, "#61 " + c, "\\" + c, "a\\" + c + " ", "\\" + c + ",", "\\\\" + c, "\\4" + c, "\\41" + c, "a " + c} {
			wantRead(t, s)
			wantUnfilter(t, s)
		}
		eachByte(func(d string) {
			for _, s := range []string{c + d, "\\" + c + d, "a \\" + c + d + " ", "#" + c + d} {
				wantRead(t, s)
				wantUnfilter(t, s)
			}
		})
	})
}

// P10.2 to P10.5: all short strings of some bytes.
func TestEachShortString(t *testing.T) {
	values := 0
	for _, s := range short(5, "a", "6", ",", "=", "\\", " ", "#", "\u00e9", "\xff") {
		wantPut(t, s)
		if wantRead(t, s) {
			values++
		}
	}
	if values < 10000 {
		t.Error(values)
	}
	values = 0
	for _, s := range short(6, "2", "a", "\\", "*", "\xc3") {
		wantPut(t, s)
		wantRead(t, s)
		if wantUnfilter(t, s) {
			values++
		}
	}
	if values < 500 {
		t.Error(values)
	}
}

// P10.2 to P10.5 by chance.
func TestByChance(t *testing.T) {
	r := rand.New(rand.NewSource(10))
	read, unfiltered := 0, 0
	for range 40000 {
		s := byChance(r, 8, pieces)
		wantPut(t, s)
		if wantRead(t, s) {
			read++
		}
		if wantUnfilter(t, s) {
			unfiltered++
		}
		// What is put is read in the same way if it stands before more, and among blanks.
		p := escape.Put(s)
		for _, after := range []string{",", "+ \"", ";\\"} {
			wantValue(t, "  "+p+"  "+after+s, s, len(p)+4)
		}
		for _, after := range []string{"\"", "<", ">", "="} {
			wantNone(t, p+after+s)
		}
		if t.Failed() {
			return
		}
	}
	if read < 5000 || unfiltered < 5000 {
		t.Error(read, unfiltered)
	}
}

// P10.3 and P10.4: one byte of what is put is another.
func TestChangedByte(t *testing.T) {
	r := rand.New(rand.NewSource(11))
	for range 40000 {
		for _, s := range []string{escape.Put(byChance(r, 8, pieces)), escape.Filter(byChance(r, 8, pieces)), "#" + escape.Hex(byChance(r, 4, pieces))} {
			if s == "" {
				continue
			}
			b := []byte(s)
			b[r.Intn(len(b))] = byte(r.Intn(256))
			wantRead(t, string(b))
			wantUnfilter(t, string(b))
		}
		if t.Failed() {
			return
		}
	}
}

// P10.1 to P10.5 for strings that are longer than any value.
func TestLong(t *testing.T) {
	const many = 300000
	for _, piece := range []string{"a", " ", "\\", ",", "#", "\x00", "\xff", "\u00e9", "a\\, "} {
		s := strings.Repeat(piece, many)
		p, f, h := escape.Put(s), escape.Filter(s), escape.Hex(s)
		if v, n, ok := escape.Read(p); v != s || n != len(p) || !ok {
			t.Errorf("%q: %d %d %v", piece, len(v), n, ok)
		}
		if v, ok := escape.Unfilter(f); v != s || !ok {
			t.Errorf("%q: %d %v", piece, len(v), ok)
		}
		if v, n, ok := escape.Read("#" + h); v != s || n != len(h)+1 || !ok {
			t.Errorf("%q: %d %d %v", piece, len(v), n, ok)
		}
		if v, n, ok := escape.Read(p + "\\"); v != "" || n != 0 || ok {
			t.Errorf("%q: %d %d %v", piece, len(v), n, ok)
		}
		if v, ok := escape.Unfilter(f + "\\"); v != "" || ok {
			t.Errorf("%q: %d %v", piece, len(v), ok)
		}
		if v, ok := escape.Unhex(h + "0"); v != "" || ok {
			t.Errorf("%q: %d %v", piece, len(v), ok)
		}
	}
	blanks := strings.Repeat(" ", many)
	wantValue(t, blanks+"a"+blanks, "a", 2*many+1)
	wantValue(t, blanks, "", many)
}

// Rule 4: results are new memory, also where they are the arguments themselves.
func TestResultsAreNew(t *testing.T) {
	share := func(a, b string) bool {
		from, to := uintptr(unsafe.Pointer(unsafe.StringData(a))), uintptr(unsafe.Pointer(unsafe.StringData(b)))
		return a != "" && b != "" && from < to+uintptr(len(b)) && to < from+uintptr(len(a))
	}
	for _, s := range []string{"a", "abc", " abc ,", "abc,d", "\\,", "abc\\2c", "#616263", "6162", "\u00e9"} {
		read, _, _ := escape.Read(s)
		unfiltered, _ := escape.Unfilter(s)
		unhexed, _ := escape.Unhex(s)
		for _, got := range []string{escape.Put(s), escape.Filter(s), escape.Hex(s), read, unfiltered, unhexed} {
			if share(s, got) {
				t.Errorf("%q: %q", s, got)
			}
		}
	}
}

// Rule 5: the same arguments have the same results.
func TestRepeatable(t *testing.T) {
	for range 20 {
		for _, s := range pieces {
			wantPut(t, s)
			wantRead(t, s)
			wantUnfilter(t, s)
			if s != "" && escape.Hex(s) != hex.EncodeToString([]byte(s)) {
				t.Error(s)
			}
		}
	}
}
