package fold_test

import (
	"math"
	"math/rand"
	"strings"
	"testing"
	"unsafe"

	"peerage/fold"
)

// encode is RFC 3629: c in as few bytes as possible.
func encode(c rune) string {
	switch {
	case c < 0x80:
		return string([]byte{byte(c)})
	case c < 0x800:
		return string([]byte{0xc0 + byte(c>>6), 0x80 + byte(c&0x3f)})
	case c < 0x10000:
		return string([]byte{0xe0 + byte(c>>12), 0x80 + byte(c>>6&0x3f), 0x80 + byte(c&0x3f)})
	}
	return string([]byte{0xf0 + byte(c>>18), 0x80 + byte(c>>12&0x3f), 0x80 + byte(c>>6&0x3f), 0x80 + byte(c&0x3f)})
}

// eachCharacter calls do with each character, in ascending order.
func eachCharacter(do func(c rune)) {
	for c := range rune(0x110000) {
		if c < 0xd800 || c > 0xdfff {
			do(c)
		}
	}
}

// characters returns all characters by their bytes.
func characters() map[string]rune {
	out := make(map[string]rune, 0x110000)
	eachCharacter(func(c rune) { out[encode(c)] = c })
	return out
}

// modelNext is P5.1: the character among all whose bytes s begins with.
func modelNext(all map[string]rune, s string) (rune, int) {
	for size := 1; size <= min(4, len(s)); size++ {
		if c, ok := all[s[:size]]; ok {
			return c, size
		}
	}
	return 0, 0
}

// modelCount is P5.1.
func modelCount(all map[string]rune, s string) int {
	n := 0
	for s != "" {
		_, size := modelNext(all, s)
		if size == 0 {
			return -1
		}
		s = s[size:]
		n++
	}
	return n
}

// whites are all the white space there is.
const whites = "\t\n\v\f\r \u0085\u00a0"

// ignoreds are all ignored characters.
const ignoreds = "\x00\x01\x02\x03\x04\x05\x06\x07\x08\x0e\x0f\x10\x11\x12\x13\x14\x15\x16\x17\x18\x19\x1a\x1b\x1c\x1d\x1e\x1f\x7f\u00ad\u200b"

// The capital letters and their small letters, in one order.
const (
	capitals = "ABCDEFGHIJKLMNOPQRSTUVWXYZÀÁÂÃÄÅÆÇÈÉÊËÌÍÎÏÐÑÒÓÔÕÖØÙÚÛÜÝÞ"
	smalls   = "abcdefghijklmnopqrstuvwxyzàáâãäåæçèéêëìíîïðñòóôõöøùúûüýþ"
)

// What lists has for characters without a small letter: no character is negative.
const (
	white   = -1
	dropped = -2
)

// lists returns what the tables above say of each character that they have: that it is white space, that it is ignored, or its small letter.
func lists() map[rune]rune {
	out := map[rune]rune{}
	for _, c := range whites {
		out[c] = white
	}
	for _, c := range ignoreds {
		out[c] = dropped
	}
	small := []rune(smalls)
	for i, c := range []rune(capitals) {
		out[c] = small[i]
	}
	return out
}

// model is P5.2, step by step, for a valid string.
func model(s string, trim, small bool) string {
	of := lists()
	var kept []rune
	for _, c := range s {
		if of[c] != dropped {
			kept = append(kept, c)
		}
	}
	var runs []rune
	for i, c := range kept {
		if of[c] != white {
			runs = append(runs, c)
		} else if i == 0 || of[kept[i-1]] != white {
			runs = append(runs, ' ')
		}
	}
	out := string(runs)
	if trim {
		out = strings.TrimPrefix(strings.TrimSuffix(out, " "), " ")
	}
	if small {
		for i, c := range []rune(capitals) {
			out = strings.ReplaceAll(out, string(c), string([]rune(smalls)[i]))
		}
	}
	return out
}

// wantAll holds Fold, Piece and Exact of s against what they must return.
func wantAll(t *testing.T, s, folded, piece, exact string) {
	t.Helper()
	if got := fold.Fold(s); got != folded {
		t.Errorf("Fold of %.60q: %.60q instead of %.60q", s, got, folded)
	}
	if got := fold.Piece(s); got != piece {
		t.Errorf("Piece of %.60q: %.60q instead of %.60q", s, got, piece)
	}
	if got := fold.Exact(s); got != exact {
		t.Errorf("Exact of %.60q: %.60q instead of %.60q", s, got, exact)
	}
}

// wantModel holds Fold, Piece and Exact of a valid string against the model.
func wantModel(t *testing.T, s string) {
	t.Helper()
	wantAll(t, s, model(s, true, true), model(s, false, true), model(s, true, false))
}

// wantNext holds Next, Right and Count against the model.
func wantNext(t *testing.T, all map[string]rune, s string) {
	t.Helper()
	c, size := modelNext(all, s)
	if got, n := fold.Next(s); got != c || n != size {
		t.Errorf("Next of %x: %x %d instead of %x %d", s, got, n, c, size)
	}
	count := modelCount(all, s)
	if n := fold.Count(s); n != count {
		t.Errorf("Count of %x: %d instead of %d", s, n, count)
	}
	if is := fold.Right(s); is != (count >= 0) {
		t.Errorf("Right of %x: %v", s, is)
	}
}

// invalid are strings that do not consist of characters only.
var invalid = []string{
	"\x80", "\xbf", "\xc2", "\xdf", "\xe0\xa0", "\xef\xbf", "\xf0\x90\x80", "\xf4\x8f\xbf", // a part of a character
	"\xc0\x80", "\xc1\xbf", "\xe0\x80\x80", "\xe0\x9f\xbf", "\xf0\x80\x80\x80", "\xf0\x8f\xbf\xbf", // more bytes than needed
	"\xed\xa0\x80", "\xed\xad\xbf", "\xed\xae\x80", "\xed\xb0\x80", "\xed\xbf\xbf", "\xed\xa0\x80\xed\xb0\x80", // d800 to dfff
	"\xf4\x90\x80\x80", "\xf5\x80\x80\x80", "\xf7\xbf\xbf\xbf", // beyond 10ffff
	"\xf8\x88\x80\x80\x80", "\xfc\x84\x80\x80\x80\x80", "\xfe", "\xff", "\xff\xff",
	"\xc2A", "\xe2\x82A", "\xe2A\xac", "\xf0\x9f\x98 ", "\xc2\xc2\xa0", "\x80\xc2",
}

// P5.1.
func TestNext(t *testing.T) {
	for s, want := range map[string]struct {
		c rune
		n int
	}{
		"": {0, 0}, "\x00": {0, 1}, "a": {'a', 1}, "\x7f": {0x7f, 1}, "\u0080": {0x80, 2}, "\u07ff": {0x7ff, 2}, "\u0800": {0x800, 3}, "\u20acx": {0x20ac, 3},
		"\ud7ff": {0xd7ff, 3}, "\ue000": {0xe000, 3}, "\uffff": {0xffff, 3}, "\U00010000": {0x10000, 4}, "\U0010ffffx": {0x10ffff, 4},
		"\ufffd": {0xfffd, 3}, "\ufeff": {0xfeff, 3}, "a\xff": {'a', 1}, "\u00e4\xc3": {0xe4, 2}, "\x00\x80": {0, 1}, "\ufffd\xff": {0xfffd, 3},
	} {
		if c, n := fold.Next(s); c != want.c || n != want.n {
			t.Errorf("%x: %x %d instead of %x %d", s, c, n, want.c, want.n)
		}
	}
	for _, s := range invalid {
		if s[0] < 0x80 {
			continue
		}
		for _, after := range []string{"", "a", " ", "\xff"} {
			if c, n := fold.Next(s + after); c != 0 || n != 0 {
				t.Errorf("%x: %x %d", s+after, c, n)
			}
		}
	}
}

// P5.1.
func TestRightAndCount(t *testing.T) {
	for s, want := range map[string]int{
		"": 0, "\x00": 1, "abc": 3, "a\x00b\x7f": 4, "\u00e4\u20ac\U0001f600": 3, "\ufffd\ufffd": 2, " \t ": 3, "e\u0301": 2, "\u200b\u00ad": 2,
		strings.Repeat("\u20ac", 100000): 100000,
	} {
		if n, is := fold.Count(s), fold.Right(s); n != want || !is {
			t.Errorf("%.40q: %d %v instead of %d", s, n, is, want)
		}
	}
	for _, s := range invalid {
		for _, before := range []string{"", "a", "\u20ac", "\U0001f600 ", strings.Repeat("x", 1000)} {
			for _, after := range []string{"", "b", "\u20ac", strings.Repeat("x", 1000)} {
				if n, is := fold.Count(before+s+after), fold.Right(before+s+after); n != -1 || is {
					t.Errorf("%.40q: %d %v", before+s+after, n, is)
				}
			}
		}
	}
}

// P5.1 for each character, alone and with its bytes cut off.
func TestEachCharacter(t *testing.T) {
	eachCharacter(func(c rune) {
		s := encode(c)
		got, n := fold.Next(s)
		more, m := fold.Next(s + "\xff")
		if got != c || n != len(s) || more != c || m != len(s) || fold.Count(s) != 1 || !fold.Right(s) || fold.Count(s+s) != 2 {
			t.Errorf("%x: %x %d", c, got, n)
		}
		for cut := 1; cut < len(s); cut++ {
			front, n := fold.Next(s[:cut])
			back, m := fold.Next(s[cut:])
			if front != 0 || n != 0 || back != 0 || m != 0 || fold.Right(s[:cut]) || fold.Right(s[cut:]) {
				t.Errorf("%x cut at %d", c, cut)
			}
		}
	})
	for c := rune(0xd800); c <= 0xdfff; c++ {
		if got, n := fold.Next(encode(c)); got != 0 || n != 0 || fold.Count(encode(c)) != -1 {
			t.Errorf("%x: %x %d", c, got, n)
		}
	}
}

// P5.1 for all strings of up to two bytes, and for those of up to four bytes that are at the edges of UTF-8.
func TestEachShortString(t *testing.T) {
	all := characters()
	wantNext(t, all, "")
	for i := range 1 << 16 {
		wantNext(t, all, string([]byte{byte(i)}))
		wantNext(t, all, string([]byte{byte(i), byte(i >> 8)}))
	}
	edges := "\x00 A\x7f\x80\x8f\x90\x9f\xa0\xbf\xc0\xc1\xc2\xdf\xe0\xe1\xec\xed\xee\xef\xf0\xf1\xf3\xf4\xf5\xff"
	for _, a := range []byte(edges) {
		for _, b := range []byte(edges) {
			for _, c := range []byte(edges) {
				wantNext(t, all, string([]byte{a, b, c}))
				for _, d := range []byte(edges) {
					wantNext(t, all, string([]byte{a, b, c, d}))
				}
			}
		}
	}
}

// P5.2.
func TestFold(t *testing.T) {
	for s, want := range map[string][3]string{
		"":                    {"", "", ""},
		"a":                   {"a", "a", "a"},
		" Foo  Bar ":          {"foo bar", " foo bar ", "Foo Bar"},
		" ":                   {"", " ", ""},
		"\t\n\u0085 \u00a0":   {"", " ", ""},
		"A\tB\r\nC":           {"a b c", "a b c", "A B C"},
		"\u00c4\u00d7\u00dc":  {"\u00e4\u00d7\u00fc", "\u00e4\u00d7\u00fc", "\u00c4\u00d7\u00dc"},
		"A\x01\u200bB":        {"ab", "ab", "AB"},
		"A \x01 \u200b B":     {"a b", "a b", "A B"},
		"\x00 \x7fA\u00ad \b": {"a", " a ", "A"},
		"\x00\u00ad":          {"", "", ""},
		" \x00":               {"", " ", ""},
		"\x00  \x00  \x00":    {"", " ", ""},
		"a\u00a0b":            {"a b", "a b", "a b"},
		"\u2003A\u3000":       {"\u2003a\u3000", "\u2003a\u3000", "\u2003A\u3000"},
		"\ufffd A":            {"\ufffd a", "\ufffd a", "\ufffd A"},
		"\u00df\u1e9e\u0178":  {"\u00df\u1e9e\u0178", "\u00df\u1e9e\u0178", "\u00df\u1e9e\u0178"},
		"\u0130\u0391\u0410":  {"\u0130\u0391\u0410", "\u0130\u0391\u0410", "\u0130\u0391\u0410"},
		"\U0001f600 \uff21":   {"\U0001f600 \uff21", "\U0001f600 \uff21", "\U0001f600 \uff21"},
		"@[`{\u00d7\u00f7":    {"@[`{\u00d7\u00f7", "@[`{\u00d7\u00f7", "@[`{\u00d7\u00f7"},
	} {
		wantAll(t, s, want[0], want[1], want[2])
		wantModel(t, s)
	}
}

// P5.2: strings that are not valid stay as they are, whatever else they have.
func TestFoldOfInvalid(t *testing.T) {
	for _, s := range invalid {
		for _, before := range []string{"", " ", "A  B\t", "\x00\u00ad", "\u00c4"} {
			for _, after := range []string{"", "  ", " A\x01", "\u200b\u00a0"} {
				// A part of a character may be a whole one together with what comes after it.
				if x := before + s + after; !fold.Right(x) {
					wantAll(t, x, x, x, x)
				}
			}
		}
	}
}

// P5.2 for each character: what becomes of it does not depend on more than the tables.
func TestFoldOfEachCharacter(t *testing.T) {
	of := lists()
	eachCharacter(func(c rune) {
		s := encode(c)
		x := "A" + s + "B"
		switch small := encode(of[c]); of[c] {
		case 0:
			wantAll(t, s, s, s, s)
			wantAll(t, x, "a"+s+"b", "a"+s+"b", x)
		case white:
			wantAll(t, s, "", " ", "")
			wantAll(t, x, "a b", "a b", "A B")
			wantAll(t, " "+s+x+s+s, "a b", " a b ", "A B")
		case dropped:
			wantAll(t, s, "", "", "")
			wantAll(t, x, "ab", "ab", "AB")
			wantAll(t, " "+s+" "+x, "ab", " ab", "AB")
		default:
			wantAll(t, s, small, small, s)
			wantAll(t, x, "a"+small+"b", "a"+small+"b", x)
		}
	})
}

// P5.2: the numbers of the characters that are replaced by small letters.
func TestSmallLetters(t *testing.T) {
	for c := rune('!'); c < 0x300; c++ {
		if strings.ContainsRune(whites+ignoreds, c) {
			continue
		}
		want := c
		if c >= 0x41 && c <= 0x5a || c >= 0xc0 && c <= 0xde && c != 0xd7 {
			want = c + 32
		}
		wantAll(t, encode(c), encode(want), encode(want), encode(c))
	}
}

// pieces are what strings by chance are made of.
var pieces = append(append(strings.Split(whites+ignoreds, ""), strings.Split("aAzZàÀþÞ×÷ßÿ19-", "")...), "  ", " \x00 ", "\u20ac", "\U0001f600", "\ufffd", "\u2003", "\u0178")

// byChance returns a valid string of up to most pieces.
func byChance(r *rand.Rand, most int) string {
	var out strings.Builder
	for range r.Intn(most + 1) {
		out.WriteString(pieces[r.Intn(len(pieces))])
	}
	return out.String()
}

// P5.2 for all pairs of pieces, and for longer strings by chance.
func TestFoldByModel(t *testing.T) {
	for _, a := range pieces {
		for _, b := range pieces {
			wantModel(t, a+b)
		}
	}
	r := rand.New(rand.NewSource(1))
	for range 20000 {
		wantModel(t, byChance(r, 12))
		if t.Failed() {
			return
		}
	}
}

// P5.2 for strings that are longer than any value.
func TestFoldOfLong(t *testing.T) {
	const many = 300000
	blanks, letters := strings.Repeat(" \x00\u00a0", many), strings.Repeat("\u00c4", many)
	small := strings.Repeat("\u00e4", many)
	wantAll(t, blanks, "", " ", "")
	wantAll(t, letters, small, small, letters)
	wantAll(t, blanks+letters+blanks+letters+blanks, small+" "+small, " "+small+" "+small+" ", letters+" "+letters)
	wantAll(t, blanks+"\xff", blanks+"\xff", blanks+"\xff", blanks+"\xff")
}

// P5.3.
func TestNumeric(t *testing.T) {
	for s, want := range map[string]string{
		"0": "0", "1 23": "123", "007": "007", " 1 ": "1", "   0   0   ": "00", "0123456789": "0123456789",
		strings.Repeat("98 ", 1000): strings.Repeat("98", 1000),
	} {
		if got, ok := fold.Numeric(s); got != want || !ok {
			t.Errorf("%q: %q %v instead of %q", s, got, ok, want)
		}
	}
	for _, s := range []string{
		"", " ", "    ", "a", "1a", "a1", "1 a", "a 1", "1a1", "-1", "+1", "1.0", "1,0", "1-2", "\t1", "1\t", "1\n2", "1\u00a02", "1\u00852", "1\x002", "1\u00ad2",
		"\u0661", "1\u0661", "\uff11", "\u00b2", "\xff", "1\xff", "\xb2", "/", ":", "1/", "1:",
	} {
		if got, ok := fold.Numeric(s); got != "" || ok {
			t.Errorf("%q: %q %v", s, got, ok)
		}
	}
	for c := range 256 {
		s := string([]byte{byte(c)})
		digit := c >= '0' && c <= '9'
		alone, between := "", ""
		if digit {
			alone = s
		}
		if digit || c == ' ' {
			between = "1" + alone + "2"
		}
		if got, ok := fold.Numeric(s); got != alone || ok != digit {
			t.Errorf("%x: %q %v", c, got, ok)
		}
		if got, ok := fold.Numeric("1" + s + "2"); got != between || ok != (between != "") {
			t.Errorf("%x between digits: %q %v", c, got, ok)
		}
	}
}

// P5.4.
func TestFind(t *testing.T) {
	for _, x := range []struct {
		s, t       string
		from, want int
	}{
		{"abab", "ab", 0, 0}, {"abab", "ab", 1, 2}, {"abab", "ab", 2, 2}, {"abab", "ab", 3, -1}, {"abab", "ab", 4, -1}, {"abab", "ab", 5, -1},
		{"abab", "ba", 0, 1}, {"abab", "ba", 2, -1}, {"abab", "abab", 0, 0}, {"abab", "abab", 1, -1}, {"abab", "ababa", 0, -1}, {"abab", "c", 0, -1},
		{"aaa", "aa", 1, 1}, {"aaa", "aa", 2, -1}, {"aab", "ab", 0, 1}, {"aaab", "aab", 0, 1}, {"abaababaab", "ababaab", 0, 3},
		{"ab", "", 0, 0}, {"ab", "", 1, 1}, {"ab", "", 2, 2}, {"ab", "", 3, -1}, {"", "", 0, 0}, {"", "", 1, -1}, {"", "a", 0, -1},
		{"ab", "b", -1, 1}, {"ab", "", -1, 0}, {"ab", "c", -5, -1}, {"", "", -1, 0},
		{"ab", "a", math.MinInt, 0}, {"ab", "b", math.MinInt, 1}, {"ab", "a", math.MaxInt, -1}, {"ab", "", math.MaxInt, -1}, {"", "", math.MaxInt, -1}, {"ab", "a", math.MinInt32, 0},
		// Offsets are those of bytes, and bytes need not be characters.
		{"\u00e4b", "b", 0, 2}, {"\u00e4\u00a4", "\xa4", 0, 1}, {"\u00e4\u00a4", "\xa4", 2, 3}, {"a\xff\x00", "\xff", 0, 1}, {"a\xff\x00", "\x00", 0, 2}, {"\ufffd", "\xff", 0, -1},
		{"aB", "b", 0, -1}, {"a b", " ", 0, 1},
	} {
		if at := fold.Find(x.s, x.t, x.from); at != x.want {
			t.Errorf("%q in %q from %d: %d instead of %d", x.t, x.s, x.from, at, x.want)
		}
	}
}

// modelFind is P5.4.
func modelFind(s, t string, from int) int {
	for at := max(from, 0); at <= len(s); at++ {
		if len(t) <= len(s)-at && s[at:at+len(t)] == t {
			return at
		}
	}
	return -1
}

// words returns all strings of up to size of these bytes.
func words(size int, of string) []string {
	out := []string{""}
	for from := 0; size > 0; size-- {
		to := len(out)
		for _, s := range out[from:to] {
			for i := range len(of) {
				out = append(out, s+of[i:i+1])
			}
		}
		from = to
	}
	return out
}

// P5.4 for all short strings of two bytes, of which one is not a character.
func TestFindInEachShortString(t *testing.T) {
	for _, s := range words(7, "a\xff") {
		for _, part := range words(4, "a\xff") {
			for from := -1; from <= len(s)+1; from++ {
				if at, want := fold.Find(s, part, from), modelFind(s, part, from); at != want {
					t.Fatalf("%q in %q from %d: %d instead of %d", part, s, from, at, want)
				}
			}
		}
	}
}

// P5.4 for long strings: the search ends in good time even if the beginnings of many places fit.
func TestFindInLong(t *testing.T) {
	const many = 1 << 20
	s := strings.Repeat("a", many)
	part := strings.Repeat("a", many/2)
	if at := fold.Find(s, part, 5); at != 5 {
		t.Error(at)
	}
	if at := fold.Find(s, part, many/2+1); at != -1 {
		t.Error(at)
	}
	if at := fold.Find(s, part+"b", 0); at != -1 {
		t.Error(at)
	}
	if at := fold.Find(s+"b", part+"b", 1); at != many/2 {
		t.Error(at)
	}
}

// P5.5: what is folded remains so. The same holds for Piece and Exact, which keys and searches are made of.
func TestFoldOfFolded(t *testing.T) {
	r := rand.New(rand.NewSource(2))
	for range 20000 {
		s := byChance(r, 12)
		if r.Intn(4) == 0 {
			s += invalid[r.Intn(len(invalid))]
		}
		for _, f := range []func(string) string{fold.Fold, fold.Piece, fold.Exact} {
			if once := f(s); f(once) != once {
				t.Fatalf("%q: %q and then %q", s, once, f(once))
			}
		}
		if fold.Fold(s) != fold.Fold(fold.Exact(s)) || fold.Fold(s) != fold.Fold(fold.Piece(s)) {
			t.Fatalf("%q", s)
		}
	}
}

// P5.5: white space and ignored characters at the ends do not count.
func TestFoldOfMoreAtEnds(t *testing.T) {
	r := rand.New(rand.NewSource(3))
	around := strings.Split(whites+ignoreds, "")
	for range 20000 {
		s := byChance(r, 8)
		x := s
		for range r.Intn(5) {
			x = around[r.Intn(len(around))] + x
		}
		for range r.Intn(5) {
			x += around[r.Intn(len(around))]
		}
		if fold.Fold(x) != fold.Fold(s) || fold.Exact(x) != fold.Exact(s) {
			t.Fatalf("%q and %q: %q and %q", s, x, fold.Fold(s), fold.Fold(x))
		}
	}
	for _, c := range around {
		if fold.Fold(c+"x y"+c) != "x y" || fold.Fold(c+c) != "" {
			t.Errorf("%q", c)
		}
	}
}

// P5.5: capital letters in place of small ones do not count.
func TestFoldOfCapitals(t *testing.T) {
	r := rand.New(rand.NewSource(4))
	small, capital := []rune(smalls), []rune(capitals)
	for range 5000 {
		s := byChance(r, 8)
		for range r.Intn(5) {
			s += string(small[r.Intn(len(small))])
		}
		x := []rune(s)
		for i := range x {
			for j := range small {
				if x[i] == small[j] && r.Intn(2) == 0 {
					x[i] = capital[j]
				}
			}
		}
		if fold.Fold(string(x)) != fold.Fold(s) || fold.Piece(string(x)) != fold.Piece(s) {
			t.Fatalf("%q and %q: %q and %q", s, string(x), fold.Fold(s), fold.Fold(string(x)))
		}
	}
	for i := range small {
		if c, k := string(small[i]), string(capital[i]); fold.Fold(k) != c || fold.Fold(c) != c || fold.Exact(k) != k {
			t.Errorf("%s and %s", c, k)
		}
	}
}

// Rule 4: results are new memory, also where a string is returned as it is.
func TestResultsAreNew(t *testing.T) {
	share := func(a, b string) bool {
		from, to := uintptr(unsafe.Pointer(unsafe.StringData(a))), uintptr(unsafe.Pointer(unsafe.StringData(b)))
		return a != "" && b != "" && from < to+uintptr(len(b)) && to < from+uintptr(len(a))
	}
	numeric := func(s string) string {
		digits, _ := fold.Numeric(s)
		return digits
	}
	for _, s := range []string{"already folded", "12345", " Foo  Bar ", "not valid \xff"} {
		for i, f := range []func(string) string{fold.Fold, fold.Piece, fold.Exact, numeric} {
			if share(s, f(s)) {
				t.Errorf("%q %d", s, i)
			}
		}
	}
}
