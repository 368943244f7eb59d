package tag_test

import (
	"bytes"
	"math"
	"testing"

	"peerage/api"
	"peerage/tag"
)

// Numbers around each number of groups of seven bits.
var numbers = []int{0, 1, 29, 30, 31, 32, 126, 127, 128, 129, 255, 256, 16383, 16384, 16385, 1<<21 - 1, 1 << 21, 1<<21 + 1, 1<<28 - 2, 1<<28 - 1}

// Lengths around each number of bytes.
var lengths = []int{0, 1, 126, 127, 128, 129, 254, 255, 256, 257, 65535, 65536, 1<<24 - 1, 1 << 24, 1<<31 - 2, 1<<31 - 1}

func eachTag(do func(tag.Tag)) {
	for class := tag.Universal; class <= tag.Private; class++ {
		for _, number := range numbers {
			do(tag.Tag{Class: class, Number: number})
			do(tag.Tag{Class: class, Made: true, Number: number})
		}
	}
}

// encodeTag is P1.1 by division, from the last byte to the first.
func encodeTag(t tag.Tag) []byte {
	first := t.Class * 64
	if t.Made {
		first += 32
	}
	if t.Number < 31 {
		return []byte{byte(first + t.Number)}
	}
	rest := []byte{byte(t.Number % 128)}
	for n := t.Number / 128; n > 0; n /= 128 {
		rest = append([]byte{byte(128 + n%128)}, rest...)
	}
	return append([]byte{byte(first + 31)}, rest...)
}

// encodeLen is P1.3 by division, from the last byte to the first.
func encodeLen(n int) []byte {
	if n < 128 {
		return []byte{byte(n)}
	}
	var rest []byte
	for ; n > 0; n /= 256 {
		rest = append([]byte{byte(n % 256)}, rest...)
	}
	return append([]byte{byte(128 + len(rest))}, rest...)
}

func TestClasses(t *testing.T) {
	if tag.Universal != 0 || tag.Application != 1 || tag.Context != 2 || tag.Private != 3 {
		t.Error(tag.Universal, tag.Application, tag.Context, tag.Private)
	}
}

// P1.1.
func TestRight(t *testing.T) {
	eachTag(func(x tag.Tag) {
		if !tag.Right(x) {
			t.Errorf("%+v is valid", x)
		}
	})
	for _, x := range invalidTags() {
		if tag.Right(x) {
			t.Errorf("%+v is not valid", x)
		}
	}
}

func invalidTags() []tag.Tag {
	return []tag.Tag{
		{Class: -1}, {Class: 4}, {Class: math.MinInt}, {Class: math.MaxInt}, {Class: 256}, {Class: 4, Made: true, Number: 3},
		{Number: -1}, {Number: 1 << 28}, {Number: math.MinInt}, {Number: math.MaxInt}, {Class: tag.Private, Made: true, Number: -1},
		{Class: -1, Number: -1}, {Class: 4, Number: 1 << 28},
	}
}

// P1.1.
func TestPut(t *testing.T) {
	for want, x := range map[string]tag.Tag{
		"\x00": {}, "\x20": {Made: true}, "\x1e": {Number: 30}, "\x1f\x1f": {Number: 31}, "\x1f\x7f": {Number: 127},
		"\xa3":                 {Class: tag.Context, Made: true, Number: 3},
		"\x5f\x1f":             {Class: tag.Application, Number: 31},
		"\x1f\x81\x00":         {Number: 128},
		"\xdf\xff\x7f":         {Class: tag.Private, Number: 16383},
		"\xbf\x81\x80\x00":     {Class: tag.Context, Made: true, Number: 16384},
		"\x1f\x81\x80\x80\x00": {Number: 1 << 21},
		"\xff\xff\xff\xff\x7f": {Class: tag.Private, Made: true, Number: 1<<28 - 1},
	} {
		if b := tag.Put(nil, x); string(b) != want {
			t.Errorf("%+v: %x instead of %x", x, b, want)
		}
	}
	before := []byte{1, 2, 3}
	eachTag(func(x tag.Tag) {
		want := append([]byte{1, 2, 3}, encodeTag(x)...)
		if b := tag.Put(before, x); !bytes.Equal(b, want) {
			t.Errorf("%+v: %x instead of %x", x, b, want)
		}
	})
	for _, x := range invalidTags() {
		if b := tag.Put(before, x); !bytes.Equal(b, before) {
			t.Errorf("%+v: %x", x, b)
		}
		if b := tag.Put(nil, x); len(b) != 0 {
			t.Errorf("%+v: %x", x, b)
		}
	}
}

// P1.2.
func TestRead(t *testing.T) {
	for s, want := range map[string]tag.Tag{
		"\x00": {}, "\x20": {Made: true}, "\x1e": {Number: 30}, "\x1f\x1f": {Number: 31}, "\x1f\x20": {Number: 32},
		"\x3e":                 {Made: true, Number: 30},
		"\xc0":                 {Class: tag.Private},
		"\xfe":                 {Class: tag.Private, Made: true, Number: 30},
		"\x5f\x7f":             {Class: tag.Application, Number: 127},
		"\x1f\x81\x00":         {Number: 128},
		"\x1f\x81\x1e":         {Number: 158},
		"\x1f\x81\x80\x00":     {Number: 16384},
		"\x1f\x81\x80\x80\x00": {Number: 1 << 21},
		"\xbf\xff\xff\xff\x7f": {Class: tag.Context, Made: true, Number: 1<<28 - 1},
	} {
		if x, n, e := tag.Read([]byte(s)); x != want || n != len(s) || e != api.OK {
			t.Errorf("%x: %+v %d %v", s, x, n, e)
		}
	}
	for first := range 256 {
		if first%32 == 31 {
			continue
		}
		want := tag.Tag{Class: first / 64, Made: first/32%2 == 1, Number: first % 32}
		if x, n, e := tag.Read([]byte{byte(first), 31}); x != want || n != 1 || e != api.OK {
			t.Errorf("%x: %+v %d %v", first, x, n, e)
		}
	}
}

// P1.2: the order of its errors.
func TestReadErrors(t *testing.T) {
	for s, want := range map[string]api.Errno{
		"": api.ErrEnd, "\x1f": api.ErrEnd, "\xff": api.ErrEnd, "\x1f\x81": api.ErrEnd, "\x1f\xff": api.ErrEnd,
		"\x1f\x81\x80": api.ErrEnd, "\x1f\xff\xff\xff": api.ErrEnd, "\x1f\x9e": api.ErrEnd,
		"\x1f\x80": api.ErrForm, "\x1f\x80\x1f": api.ErrForm, "\x1f\x80\x80\x80\x80": api.ErrForm,
		"\x1f\x00": api.ErrForm, "\x1f\x01": api.ErrForm, "\x1f\x1e": api.ErrForm, "\xbf\x1e\x7f": api.ErrForm,
		"\x1f\xff\xff\xff\xff": api.ErrForm, "\x1f\x81\x80\x80\x80": api.ErrForm, "\x1f\x81\x80\x80\x80\x00": api.ErrForm, "\x1f\xff\xff\xff\xff\x7f": api.ErrForm,
	} {
		if x, n, e := tag.Read([]byte(s)); e != want || n != 0 || x != (tag.Tag{}) {
			t.Errorf("%x: %+v %d %v instead of %v", s, x, n, e, want)
		}
	}
	if x, n, e := tag.Read(nil); e != api.ErrEnd || n != 0 || x != (tag.Tag{}) {
		t.Errorf("nil: %+v %d %v", x, n, e)
	}
}

// P1.3.
func TestPutLen(t *testing.T) {
	for want, n := range map[string]int{
		"\x00": 0, "\x01": 1, "\x7f": 127, "\x81\x80": 128, "\x81\xff": 255, "\x82\x01\x00": 256, "\x82\x01\x2c": 300,
		"\x83\x01\x00\x00": 65536, "\x84\x01\x00\x00\x00": 1 << 24, "\x84\x7f\xff\xff\xff": 1<<31 - 1,
	} {
		if b := tag.PutLen(nil, n); string(b) != want {
			t.Errorf("%d: %x instead of %x", n, b, want)
		}
	}
	before := []byte{1, 2, 3}
	for _, n := range append([]int{math.MaxInt - 1, math.MaxInt}, lengths...) {
		want := append([]byte{1, 2, 3}, encodeLen(n)...)
		if b := tag.PutLen(before, n); !bytes.Equal(b, want) {
			t.Errorf("%d: %x instead of %x", n, b, want)
		}
	}
	for _, n := range []int{-1, -128, math.MinInt} {
		if b := tag.PutLen(before, n); !bytes.Equal(b, before) {
			t.Errorf("%d: %x", n, b)
		}
		if b := tag.PutLen(nil, n); len(b) != 0 {
			t.Errorf("%d: %x", n, b)
		}
	}
}

// P1.4.
func TestReadLen(t *testing.T) {
	for s, want := range map[string]int{
		"\x00": 0, "\x7f": 127, "\x81\x80": 128, "\x82\x01\x2c": 300, "\x83\xff\xff\xff": 1<<24 - 1, "\x84\x7f\xff\xff\xff": 1<<31 - 1,
		"\x81\x00": 0, "\x81\x05": 5, "\x82\x00\x05": 5, "\x84\x00\x00\x00\x00": 0, "\x84\x00\x00\x01\x2c": 300, // leading zeros
	} {
		for _, after := range []string{"", "\x01", "\xff\xff\xff\xff\xff"} {
			if n, used, e := tag.ReadLen([]byte(s + after)); n != want || used != len(s) || e != api.OK {
				t.Errorf("%x: %d %d %v", s+after, n, used, e)
			}
		}
	}
}

// P1.4: the order of its errors.
func TestReadLenErrors(t *testing.T) {
	for s, want := range map[string]api.Errno{
		"":     api.ErrEnd,
		"\x80": api.ErrForm, "\x80\x01": api.ErrForm, "\xff": api.ErrForm, "\xff\x01": api.ErrForm,
		"\x85": api.ErrBig, "\x85\x00\x00\x00\x00\x01": api.ErrBig, "\xfe": api.ErrBig, "\x88\x00": api.ErrBig,
		"\x81": api.ErrEnd, "\x82\x01": api.ErrEnd, "\x83\x00\x00": api.ErrEnd, "\x84": api.ErrEnd, "\x84\x80\x00\x00": api.ErrEnd, "\x84\xff\xff\xff": api.ErrEnd,
		"\x84\x80\x00\x00\x00": api.ErrBig, "\x84\xff\xff\xff\xff": api.ErrBig, "\x84\x80\x00\x00\x00\x00": api.ErrBig,
	} {
		if n, used, e := tag.ReadLen([]byte(s)); e != want || n != 0 || used != 0 {
			t.Errorf("%x: %d %d %v instead of %v", s, n, used, e, want)
		}
	}
	if n, used, e := tag.ReadLen(nil); e != api.ErrEnd || n != 0 || used != 0 {
		t.Errorf("nil: %d %d %v", n, used, e)
	}
}

// P1.5 for identifiers.
func TestTagRoundTrip(t *testing.T) {
	eachTag(func(x tag.Tag) {
		b := tag.Put(nil, x)
		for _, after := range []string{"", "\x00", "\x1f", "\x80\x80", "\xff\xff\xff\xff\xff\xff"} {
			y, n, e := tag.Read(append(bytes.Clone(b), after...))
			if y != x || n != len(b) || e != api.OK {
				t.Errorf("%+v and %x: %+v %d %v", x, after, y, n, e)
			}
		}
		for i := range b {
			if y, n, e := tag.Read(b[:i]); e != api.ErrEnd || n != 0 || y != (tag.Tag{}) {
				t.Errorf("%x: %+v %d %v", b[:i], y, n, e)
			}
		}
	})
}

// P1.5 for lengths, up to the greatest one that P1.4 reads.
func TestLenRoundTrip(t *testing.T) {
	for _, n := range lengths {
		b := tag.PutLen(nil, n)
		for _, after := range []string{"", "\x00", "\x80", "\xff\xff\xff\xff\xff"} {
			m, used, e := tag.ReadLen(append(bytes.Clone(b), after...))
			if m != n || used != len(b) || e != api.OK {
				t.Errorf("%d and %x: %d %d %v", n, after, m, used, e)
			}
		}
		for i := range b {
			if m, used, e := tag.ReadLen(b[:i]); e != api.ErrEnd || m != 0 || used != 0 {
				t.Errorf("%x: %d %d %v", b[:i], m, used, e)
			}
		}
	}
}

// Whatever is read is valid, and is what the document puts, but for leading zeros of lengths.
func TestReadAllShort(t *testing.T) {
	for i := range 1 << 24 {
		b := []byte{byte(i >> 16), byte(i >> 8), byte(i)}
		if x, n, e := tag.Read(b); e == api.OK && (!tag.Right(x) || !bytes.Equal(encodeTag(x), b[:n])) {
			t.Fatalf("%x: %+v %d", b, x, n)
		}
		if m, used, e := tag.ReadLen(b); e == api.OK && b[1] != 0 && m >= 128 && !bytes.Equal(encodeLen(m), b[:used]) {
			t.Fatalf("%x: %d %d", b, m, used)
		}
	}
}

// Rule 4: neither the argument nor its spare capacity is written, and the result is memory of its own.
func TestPutLeavesArguments(t *testing.T) {
	puts := map[string]func([]byte) []byte{
		"short tag":     func(b []byte) []byte { return tag.Put(b, tag.Tag{Number: 3}) },
		"long tag":      func(b []byte) []byte { return tag.Put(b, tag.Tag{Number: 1<<28 - 1}) },
		"invalid tag":   func(b []byte) []byte { return tag.Put(b, tag.Tag{Number: -1}) },
		"short length":  func(b []byte) []byte { return tag.PutLen(b, 3) },
		"long length":   func(b []byte) []byte { return tag.PutLen(b, 1<<31-1) },
		"no length":     func(b []byte) []byte { return tag.PutLen(b, -1) },
		"longest of it": func(b []byte) []byte { return tag.PutLen(b, math.MaxInt) },
	}
	for name, put := range puts {
		for _, size := range []int{0, 2} {
			room := []byte("0123456789abcdef")
			out := put(room[:size])
			for i := range out {
				out[i] = 'x'
			}
			spare := out[len(out):cap(out)]
			for i := range spare {
				spare[i] = 'x'
			}
			if string(room) != "0123456789abcdef" {
				t.Errorf("%s after %d bytes: %s", name, size, room)
			}
		}
	}
}

// Rule 8: memory after the end of a slice is not read.
func TestReadStopsAtEnd(t *testing.T) {
	for _, s := range []string{"\x1f\x81\x00", "\x1f\x1f", "\x01"} {
		b := []byte(s)
		if _, _, e := tag.Read(b[:len(b)-1]); e != api.ErrEnd {
			t.Errorf("tag %x: %v", s, e)
		}
	}
	for _, s := range []string{"\x82\x01\x2c", "\x81\x80", "\x01"} {
		b := []byte(s)
		if _, _, e := tag.ReadLen(b[:len(b)-1]); e != api.ErrEnd {
			t.Errorf("length %x: %v", s, e)
		}
	}
}
