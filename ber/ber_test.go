package ber_test

import (
	"bytes"
	"math"
	"math/rand"
	"runtime/debug"
	"slices"
	"strings"
	"testing"

	"peerage/api"
	"peerage/ber"
	"peerage/tag"
)

// plain is an octet string.
func plain(s string) ber.Element {
	return ber.Element{Tag: tag.Tag{Number: 4}, Bytes: []byte(s)}
}

// zeros is an octet string of so many bytes.
func zeros(n int) ber.Element {
	return plain(strings.Repeat("\x00", n))
}

// made is a sequence.
func made(kids ...ber.Element) ber.Element {
	return ber.Element{Tag: tag.Tag{Made: true, Number: 16}, Kids: kids}
}

// nest returns x within so many sequences.
func nest(x ber.Element, times int) ber.Element {
	for range times {
		x = made(x)
	}
	return x
}

// shared returns x within so many levels of sequences, each of which has the one below it so many times.
func shared(x ber.Element, times, levels int) ber.Element {
	for range levels {
		x = made(slices.Repeat([]ber.Element{x}, times)...)
	}
	return x
}

// endless returns a sequence that contains x and itself.
func endless(x ber.Element) ber.Element {
	kids := make([]ber.Element, 2)
	kids[0] = x
	kids[1] = made(kids...)
	return kids[1]
}

// far is a depth that a small stack does not have room for.
const far = 1 << 17

// smallStack lets calls within calls fail at that depth until the test ends.
func smallStack(t *testing.T) {
	before := debug.SetMaxStack(1 << 20)
	t.Cleanup(func() { debug.SetMaxStack(before) })
}

type sample struct {
	bytes string
	x     ber.Element
}

func samples() []sample {
	null := ber.Element{}
	return []sample{
		{"\x00\x00", null},
		{"\x04\x00", plain("")},
		{"\x04\x01x", plain("x")},
		{"\x30\x00", made()},
		{"\x30\x03\x01\x01\xff", made(ber.Element{Tag: tag.Tag{Number: 1}, Bytes: []byte{255}})},
		{"\x30\x05\x04\x00\x04\x01y", made(plain(""), plain("y"))},
		{"\x30\x07\x30\x05\x30\x03\x04\x01z", nest(plain("z"), 3)},
		{"\x30\x08\x30\x02\x30\x00\x04\x02ab", made(made(made()), plain("ab"))},
		{"\xff\x81\x00\x02\xa3\x00", ber.Element{
			Tag:  tag.Tag{Class: tag.Private, Made: true, Number: 128},
			Kids: []ber.Element{{Tag: tag.Tag{Class: tag.Context, Made: true, Number: 3}}},
		}},
		{"\x1f\xff\xff\xff\x7f\x00", ber.Element{Tag: tag.Tag{Number: 1<<28 - 1}}},
		// Without Made, even what is formed like elements is bytes.
		{"\x5f\x1f\x03\x30\x80\x00", ber.Element{Tag: tag.Tag{Class: tag.Application, Number: 31}, Bytes: []byte("\x30\x80\x00")}},
		{"\x04\x7f" + strings.Repeat("\x00", 127), zeros(127)},
		{"\x04\x81\x80" + strings.Repeat("\x00", 128), zeros(128)},
		{"\x04\x82\x01\x00" + strings.Repeat("\x00", 256), zeros(256)},
		{"\x30\x7e" + strings.Repeat("\x00", 126), made(slices.Repeat([]ber.Element{null}, 63)...)},
		{"\x30\x81\x80" + strings.Repeat("\x00", 128), made(slices.Repeat([]ber.Element{null}, 64)...)},
		{"\x30\x81\x81\x04\x7f" + strings.Repeat("\x00", 127), made(zeros(127))},
	}
}

// wantPut tells where Put of x is another error, or has bytes beside it.
func wantPut(t *testing.T, name string, x ber.Element, want api.Errno) {
	t.Helper()
	b, e := ber.Put(x)
	if e != want || e != api.OK && b != nil {
		t.Errorf("%s: %d bytes, %v instead of %v", name, len(b), e, want)
	}
}

// P3.1.
func TestPut(t *testing.T) {
	for _, s := range samples() {
		if b, e := ber.Put(s.x); string(b) != s.bytes || e != api.OK {
			t.Errorf("%x: %x %v", s.bytes, b, e)
		}
	}
	// Lists that are empty are as if there were none.
	empty := ber.Element{Tag: tag.Tag{Made: true, Number: 16}, Bytes: []byte{}, Kids: []ber.Element{}}
	if b, e := ber.Put(empty); string(b) != "\x30\x00" || e != api.OK {
		t.Errorf("%x %v", b, e)
	}
	empty.Tag = tag.Tag{Number: 4}
	if b, e := ber.Put(empty); string(b) != "\x04\x00" || e != api.OK {
		t.Errorf("%x %v", b, e)
	}
}

// malformed returns elements that are not well formed.
func malformed() map[string]ber.Element {
	yes := tag.Tag{Made: true, Number: 16}
	no := tag.Tag{Number: 4}
	return map[string]ber.Element{
		"class -1":              {Tag: tag.Tag{Class: -1}},
		"class 4":               {Tag: tag.Tag{Class: 4}},
		"class 4, made":         {Tag: tag.Tag{Class: 4, Made: true}},
		"number -1":             {Tag: tag.Tag{Number: -1}},
		"number 2^28":           {Tag: tag.Tag{Number: 1 << 28}},
		"greatest class":        {Tag: tag.Tag{Class: math.MaxInt, Made: true}},
		"least number":          {Tag: tag.Tag{Number: math.MinInt, Made: true}},
		"made of bytes":         {Tag: yes, Bytes: []byte{0}},
		"made of what it holds": {Tag: yes, Bytes: []byte{0, 0}, Kids: []ber.Element{{}}},
		"kids, not made":        {Tag: no, Kids: []ber.Element{{}}},
		"both, not made":        {Tag: no, Bytes: []byte{0, 0}, Kids: []ber.Element{{}}},
	}
}

// P3.1: ErrArg, wherever the fault is and whatever else is wrong.
func TestPutArg(t *testing.T) {
	for name, x := range malformed() {
		wantPut(t, name, x, api.ErrArg)
		wantPut(t, name+", as first kid", made(x, plain("")), api.ErrArg)
		wantPut(t, name+", as last kid", made(plain(""), made(), x), api.ErrArg)
		wantPut(t, name+", deep", nest(made(made(plain("")), made(plain(""), x)), 20), api.ErrArg)
		wantPut(t, name+", on the deepest level", nest(x, api.MaxDeep-1), api.ErrArg)
		wantPut(t, name+", too deep", nest(x, api.MaxDeep), api.ErrArg)
		wantPut(t, name+", much too deep", nest(x, 3*api.MaxDeep), api.ErrArg)
		wantPut(t, name+", after what is too deep", made(nest(plain(""), api.MaxDeep), x), api.ErrArg)
		wantPut(t, name+", before what is too deep", made(x, nest(plain(""), api.MaxDeep)), api.ErrArg)
		wantPut(t, name+", after what is too big", made(zeros(api.MaxMessage+1), x), api.ErrArg)
		wantPut(t, name+", within what is too big", made(zeros(api.MaxMessage), nest(x, 5)), api.ErrArg)
	}
}

// P3.1: ErrDeep, at the limit and one beyond it.
func TestPutDeep(t *testing.T) {
	for name, leaf := range map[string]ber.Element{"bytes": plain("x"), "none": plain(""), "made of nothing": made()} {
		most := nest(leaf, api.MaxDeep-1)
		wantPut(t, name, most, api.OK)
		wantPut(t, name, made(most), api.ErrDeep)
		wantPut(t, name, nest(leaf, 5*api.MaxDeep), api.ErrDeep)
		for other, x := range map[string]ber.Element{"bytes": plain("x"), "one level": made(plain("")), "many levels": nest(plain(""), 9)} {
			wantPut(t, name+" after "+other, made(x, nest(leaf, api.MaxDeep-2)), api.OK)
			wantPut(t, name+" after "+other, made(x, most), api.ErrDeep)
			wantPut(t, name+" before "+other, made(nest(leaf, api.MaxDeep-2), x), api.OK)
			wantPut(t, name+" before "+other, made(most, x), api.ErrDeep)
		}
		wantPut(t, name+" and too big", made(zeros(api.MaxMessage+1), most), api.ErrDeep)
		wantPut(t, name+" and too big", made(most, zeros(api.MaxMessage+1)), api.ErrDeep)
	}
	wantPut(t, "within what is too big", nest(zeros(api.MaxMessage+1), api.MaxDeep), api.ErrDeep)
	// One list on several levels is as deep as on its deepest one.
	most := nest(plain(""), api.MaxDeep-2)
	wantPut(t, "one list twice", made(most, most), api.OK)
	wantPut(t, "one list twice", made(most, made(most)), api.ErrDeep)
	wantPut(t, "one list twice", made(made(most), most), api.ErrDeep)
}

// P3.1: ErrBig, at the limit and one beyond it.
func TestPutBig(t *testing.T) {
	long := func(n int) ber.Element {
		return ber.Element{Tag: tag.Tag{Class: tag.Private, Number: 1<<28 - 1}, Bytes: make([]byte, n)}
	}
	for name, most := range map[string]func(more int) ber.Element{
		"bytes":            func(more int) ber.Element { return zeros(16380 + more) },
		"long tag":         func(more int) ber.Element { return long(16376 + more) },
		"kid":              func(more int) ber.Element { return made(zeros(16376 + more)) },
		"two kids":         func(more int) ber.Element { return made(zeros(8190), zeros(8182+more)) },
		"last kid":         func(more int) ber.Element { return made(zeros(16374+more), plain("")) },
		"deepest level":    func(more int) ber.Element { return nest(zeros(16384-4*24+more), 23) },
		"first, then deep": func(more int) ber.Element { return made(plain("abc"), nest(zeros(16384-5-2-4*24+more), 22), made()) },
		"many kids": func(more int) ber.Element {
			return made(append(slices.Repeat([]ber.Element{plain("")}, 8189), zeros(more))...)
		},
	} {
		b, e := ber.Put(most(0))
		if e != api.OK || len(b) != api.MaxMessage {
			t.Errorf("%s: %d bytes, %v", name, len(b), e)
		}
		wantPut(t, name, most(1), api.ErrBig)
		wantPut(t, name, most(5000), api.ErrBig)
	}
	wantPut(t, "many bytes", zeros(1<<24), api.ErrBig)
	wantPut(t, "many kids", made(make([]ber.Element, 1<<18)...), api.ErrBig)
	wantPut(t, "many within many", made(slices.Repeat([]ber.Element{made(plain(""))}, 1<<18)...), api.ErrBig)
}

// Rule 1: what is very deep, or contains one list very often or itself, has an answer too.
func TestPutEnds(t *testing.T) {
	smallStack(t)
	bad := ber.Element{Tag: tag.Tag{Class: 9}}
	wantPut(t, "chain", nest(plain(""), far), api.ErrDeep)
	wantPut(t, "chain of one that is malformed", nest(bad, far), api.ErrArg)
	wantPut(t, "shared", shared(plain(""), 100, api.MaxDeep-1), api.ErrBig)
	wantPut(t, "shared too often", shared(plain(""), 100, api.MaxDeep), api.ErrDeep)
	wantPut(t, "shared much too often", shared(plain(""), 100, 1000), api.ErrDeep)
	wantPut(t, "shared ones that are malformed", shared(bad, 100, 1000), api.ErrArg)
	wantPut(t, "shared great ones", shared(zeros(api.MaxMessage-200), 1000, 2), api.ErrBig)
	wantPut(t, "endless", endless(plain("")), api.ErrDeep)
	wantPut(t, "endless and malformed", endless(bad), api.ErrArg)
	wantPut(t, "endless and big", made(zeros(api.MaxMessage), endless(plain(""))), api.ErrDeep)
	wantPut(t, "after an endless one", made(endless(plain("")), nest(bad, far)), api.ErrArg)
}

// P3.2.
func TestNeed(t *testing.T) {
	for s, want := range map[string]int{
		"\x00\x00": 2, "\x30\x00": 2, "\x04\x01": 3, "\x04\x7f": 129, "\x30\x05\x01": 7, "\x04\x81\x80": 131, "\x04\x82\x01\x2c": 304,
		"\x1f\x1f\x00": 3, "\x1f\x81\x00\x81\x05": 10, "\x1f\xff\xff\xff\x7f\x03": 9, "\x30\x84\x00\x00\x00\x00": 6, "\x04\x83\x00\x00\x07": 12,
		// Up to the limit.
		"\x04\x82\x3f\xfc": 16384, "\x30\x82\x3f\xfc": 16384, "\x04\x83\x00\x3f\xfb": 16384, "\x04\x84\x00\x00\x3f\xfa": 16384,
		"\x1f\x1f\x82\x3f\xfb": 16384, "\x1f\xff\xff\xff\x7f\x84\x00\x00\x3f\xf6": 16384,
	} {
		for _, rest := range []string{"", "\x00", "\xff\xff\xff", strings.Repeat("\x30\x80", 9000)} {
			if n, e := ber.Need([]byte(s + rest)); n != want || e != api.OK {
				t.Errorf("%x and %d more: %d %v instead of %d", s, len(rest), n, e, want)
			}
		}
	}
}

// headErrors are beginnings of elements and their errors, which are the same whatever follows, unless it is ErrEnd.
func headErrors() map[string]api.Errno {
	return map[string]api.Errno{
		// Those of the identifier, before those of a length.
		"": api.ErrEnd, "\x1f": api.ErrEnd, "\x1f\xff": api.ErrEnd, "\x3f\xff\xff\xff": api.ErrEnd,
		"\x1f\x80": api.ErrForm, "\x1f\x1e": api.ErrForm, "\x1f\x1e\x85": api.ErrForm, "\x1f\xff\xff\xff\xff": api.ErrForm, "\x3f\x80\x85": api.ErrForm,
		// Those of the length.
		"\x30": api.ErrEnd, "\x1f\x1f": api.ErrEnd, "\x1f\xff\xff\xff\x7f": api.ErrEnd, "\x30\x81": api.ErrEnd, "\x30\x82\xff": api.ErrEnd, "\x30\x84\xff\xff\xff": api.ErrEnd,
		"\x30\x80": api.ErrForm, "\x30\xff": api.ErrForm, "\x1f\x1f\x80": api.ErrForm,
		"\x30\x85": api.ErrBig, "\x30\xfe": api.ErrBig, "\x30\x84\x80\x00\x00\x00": api.ErrBig, "\x30\x84\xff\xff\xff\xff": api.ErrBig,
		// One beyond the limit, and more.
		"\x04\x82\x3f\xfd": api.ErrBig, "\x30\x82\x3f\xfd": api.ErrBig, "\x04\x83\x00\x3f\xfc": api.ErrBig, "\x04\x84\x00\x00\x3f\xfb": api.ErrBig,
		"\x1f\x1f\x82\x3f\xfc": api.ErrBig, "\x1f\xff\xff\xff\x7f\x84\x00\x00\x3f\xf7": api.ErrBig,
		"\x04\x82\x40\x00": api.ErrBig, "\x04\x82\xff\xff": api.ErrBig, "\x30\x83\xff\xff\xff": api.ErrBig, "\x04\x84\x7f\xff\xff\xff": api.ErrBig,
		"\x1f\xff\xff\xff\x7f\x84\x7f\xff\xff\xff": api.ErrBig,
	}
}

// P3.2 and P3.3: the errors of a beginning.
func TestHeadErrors(t *testing.T) {
	for s, want := range headErrors() {
		for _, rest := range []string{"", "\x00", strings.Repeat("\x00", 20000)} {
			if want == api.ErrEnd && rest != "" {
				continue
			}
			if n, e := ber.Need([]byte(s + rest)); n != 0 || e != want {
				t.Errorf("%x and %d more: %d %v instead of %v", s, len(rest), n, e, want)
			}
			wantParse(t, s+rest, want)
		}
	}
	if n, e := ber.Need(nil); n != 0 || e != api.ErrEnd {
		t.Error(n, e)
	}
	if x, n, e := ber.Parse(nil); !none(x) || n != 0 || e != api.ErrEnd {
		t.Error(x, n, e)
	}
}

// none tells whether x is a zero Element.
func none(x ber.Element) bool {
	return x.Tag == tag.Tag{} && x.Bytes == nil && x.Kids == nil
}

// wantParse tells where the error of Parse is another one, or has something beside it.
func wantParse(t *testing.T, s string, want api.Errno) {
	t.Helper()
	if x, n, e := ber.Parse([]byte(s)); e != want || e != api.OK && (n != 0 || !none(x)) {
		t.Errorf("%.40x: %d bytes, %v instead of %v", s, n, e, want)
	}
}

// P3.3.
func TestParse(t *testing.T) {
	for _, s := range samples() {
		if x, n, e := ber.Parse([]byte(s.bytes)); !ber.Same(x, s.x) || n != len(s.bytes) || e != api.OK {
			t.Errorf("%x: %v %d %v", s.bytes, x, n, e)
		}
	}
}

// P3.3: lengths may be longer than necessary, on all levels.
func TestParseLongLengths(t *testing.T) {
	for s, want := range map[string]ber.Element{
		"\x04\x81\x01x":                                 plain("x"),
		"\x04\x82\x00\x01x":                             plain("x"),
		"\x04\x84\x00\x00\x00\x01x":                     plain("x"),
		"\x04\x81\x00":                                  plain(""),
		"\x30\x81\x00":                                  made(),
		"\x30\x84\x00\x00\x00\x00":                      made(),
		"\x30\x81\x04\x04\x81\x01x":                     made(plain("x")),
		"\x30\x0a\x30\x84\x00\x00\x00\x00\x04\x81\x01x": made(made(), plain("x")),
	} {
		if x, n, e := ber.Parse([]byte(s + "\x30")); !ber.Same(x, want) || n != len(s) || e != api.OK {
			t.Errorf("%x: %v %d %v", s, x, n, e)
		}
	}
}

// P3.3: an element at the limits.
func TestParseLimits(t *testing.T) {
	most := "\x04\x82\x3f\xfc" + strings.Repeat("x", 16380)
	if x, n, e := ber.Parse([]byte(most)); n != api.MaxMessage || e != api.OK || string(x.Bytes) != most[4:] {
		t.Error(n, e)
	}
	wantParse(t, most[:16383], api.ErrEnd)
	kids := "\x30\x82\x3f\xfc" + strings.Repeat("\x04\x00", 8190)
	if x, n, e := ber.Parse([]byte(kids)); n != api.MaxMessage || e != api.OK || len(x.Kids) != 8190 || !ber.Same(x.Kids[8189], plain("")) {
		t.Error(n, e)
	}
	wantParse(t, kids[:16383]+"\x01", api.ErrForm)
	wantParse(t, kids[:16383], api.ErrEnd)
}

// within returns the bytes s within so many sequences.
func within(s string, times int) string {
	for range times {
		s = "\x30" + string(tag.PutLen(nil, len(s))) + s
	}
	return s
}

// P3.3: the content of an element ends with it, and all its elements do too.
func TestParseForm(t *testing.T) {
	for _, content := range []string{
		"\x01", "\x04\x01", "\x04\x02x", "\x04\x00\x04", "\x04\x00\x04\x01", "\x30\x01", "\x30\x03\x04\x00", "\x30\x81\x05",
		"\x30\x02\x04\x01", "\x30\x03\x04\x02x", "\x30\x01\x04", "\x30\x00\x1f",
	} {
		for times := 1; times < api.MaxDeep-1; times++ {
			s := within(content, times)
			// What follows would complete what the content leaves unfinished.
			for _, rest := range []string{"", "\x00", "\x00\x00\x00\x00", "xxxx\x00\x00"} {
				wantParse(t, s+rest, api.ErrForm)
			}
		}
	}
	// What Need says of an element within another one is ErrForm, whatever error it is.
	for s := range headErrors() {
		if s == "" {
			continue
		}
		for times := 1; times < api.MaxDeep; times++ {
			wantParse(t, within(s, times), api.ErrForm)
			wantParse(t, within("\x04\x00"+s, times)+"\x00\x00\x00\x00\x00\x00", api.ErrForm)
		}
	}
}

// P3.3: elements end where the first missing byte is, even if what is there is wrong.
func TestParseEndFirst(t *testing.T) {
	for _, s := range []string{"\x30\x03\x30\x80", "\x30\x05\x04\x09x", "\x30\x02\x1f", "\x30\x81\x80\x1f\x80"} {
		wantParse(t, s, api.ErrEnd)
		wantParse(t, s+strings.Repeat("\x00", 128), api.ErrForm)
	}
}

// P3.3: ErrDeep, at the limit and one beyond it, whatever the bytes there are.
func TestParseDeep(t *testing.T) {
	for _, s := range []string{"\x04\x00", "\x04\x01x", "\x30\x00"} {
		want := api.OK
		for times := 1; times < 2*api.MaxDeep; times++ {
			if times == api.MaxDeep {
				want = api.ErrDeep
			}
			wantParse(t, within(s, times), want)
			wantParse(t, within("\x04\x00"+s+s, times), want)
			if times > 1 {
				wantParse(t, within("\x04\x00"+within(s, times-1)+s, 1), want)
			}
		}
	}
	for s := range headErrors() {
		if s != "" {
			wantParse(t, within(s, api.MaxDeep), api.ErrDeep)
		}
	}
	wantParse(t, within("\x04\x05x", api.MaxDeep), api.ErrDeep)
	wantParse(t, within("\x04\x05x", api.MaxDeep-1), api.ErrForm)
	wantParse(t, within("", api.MaxDeep), api.OK)
	wantParse(t, within("", api.MaxDeep+1), api.ErrDeep)
}

// P3.3: the first error from left to right is told, each element being parsed completely before the next one.
func TestParseOrder(t *testing.T) {
	form, deep := "\x30\x80", within("\x04\x00", api.MaxDeep-1)
	wantParse(t, within(deep+form, 1), api.ErrDeep)
	wantParse(t, within(form+deep, 1), api.ErrForm)
	wantParse(t, within("\x30\x01\x04"+deep, 1), api.ErrForm)
	wantParse(t, within(within(form, 3)+deep, 1), api.ErrForm)
	wantParse(t, within("\x04\x00"+deep+within(form, 3), 1), api.ErrDeep)
	// An element that does not end within the content is not looked into.
	wantParse(t, within(deep[:len(deep)-1], 1), api.ErrForm)
	wantParse(t, within(deep, 1), api.ErrDeep)
}

// modelParse is P3.3 with an error as a result of each step.
func modelParse(b []byte, others int) (ber.Element, int, api.Errno) {
	n, e := modelNeed(b)
	if e == api.OK && len(b) < n {
		e = api.ErrEnd
	}
	if e != api.OK {
		return ber.Element{}, 0, e
	}
	id, used, _ := tag.Read(b)
	_, more, _ := tag.ReadLen(b[used:])
	if !id.Made {
		return ber.Element{Tag: id, Bytes: b[used+more : n]}, n, api.OK
	}
	x := ber.Element{Tag: id}
	for at := used + more; at < n; {
		if others == api.MaxDeep-1 {
			return ber.Element{}, 0, api.ErrDeep
		}
		if size, e := modelNeed(b[at:n]); e != api.OK || at+size > n {
			return ber.Element{}, 0, api.ErrForm
		}
		kid, size, e := modelParse(b[at:n], others+1)
		if e != api.OK {
			return ber.Element{}, 0, e
		}
		x.Kids = append(x.Kids, kid)
		at += size
	}
	return x, n, api.OK
}

// modelNeed is P3.2.
func modelNeed(b []byte) (int, api.Errno) {
	_, used, e := tag.Read(b)
	if e != api.OK {
		return 0, e
	}
	n, more, e := tag.ReadLen(b[used:])
	if e != api.OK {
		return 0, e
	}
	if used+more+n > api.MaxMessage {
		return 0, api.ErrBig
	}
	return used + more + n, api.OK
}

// modelSame is P3.4.
func modelSame(a, b ber.Element) bool {
	if a.Tag != b.Tag || string(a.Bytes) != string(b.Bytes) || len(a.Kids) != len(b.Kids) {
		return false
	}
	for i := range a.Kids {
		if !modelSame(a.Kids[i], b.Kids[i]) {
			return false
		}
	}
	return true
}

// modelDepth is the definition of the depth.
func modelDepth(x ber.Element) int {
	most := 0
	for _, kid := range x.Kids {
		most = max(most, modelDepth(kid))
	}
	return most + 1
}

// modelWell is the definition of what is well formed.
func modelWell(x ber.Element) bool {
	if !tag.Right(x.Tag) || x.Tag.Made && len(x.Bytes) != 0 || !x.Tag.Made && len(x.Kids) != 0 {
		return false
	}
	for _, kid := range x.Kids {
		if !modelWell(kid) {
			return false
		}
	}
	return true
}

// modelPut is P3.1.
func modelPut(x ber.Element) (string, api.Errno) {
	if !modelWell(x) {
		return "", api.ErrArg
	}
	if modelDepth(x) > api.MaxDeep {
		return "", api.ErrDeep
	}
	if s := modelBytes(x); len(s) <= api.MaxMessage {
		return s, api.OK
	}
	return "", api.ErrBig
}

func modelBytes(x ber.Element) string {
	content := string(x.Bytes)
	for _, kid := range x.Kids {
		content += modelBytes(kid)
	}
	return string(tag.PutLen(tag.Put(nil, x.Tag), len(content))) + content
}

// checkParse holds Parse of b, and Put of what it returns, against the model.
func checkParse(t *testing.T, b []byte) {
	t.Helper()
	want, size, why := modelParse(b, 0)
	x, n, e := ber.Parse(b)
	if e != why || n != size || !modelSame(x, want) {
		t.Fatalf("%x: %v %d %v instead of %v %d %v", b, x, n, e, want, size, why)
	}
	need, e := ber.Need(b)
	if size, why := modelNeed(b); need != size || e != why {
		t.Fatalf("%x: %d %v instead of %d %v", b, need, e, size, why)
	}
	if why != api.OK {
		return
	}
	// P3.5.
	short, e := ber.Put(x)
	if e != api.OK || !modelWell(x) || modelDepth(x) > api.MaxDeep || len(short) > n {
		t.Fatalf("%x: %x %v", b, short, e)
	}
}

// P3.2, P3.3 and P3.5 for each string of up to five bytes that mean something.
func TestParseAllShort(t *testing.T) {
	some := []byte("\x00\x01\x02\x03\x04\x1e\x1f\x30\x3f\x80\x81\x82\x85\xff")
	for size := range 6 {
		count := 1
		for range size {
			count *= len(some)
		}
		for i := range count {
			b := make([]byte, size)
			for at := range b {
				b[at] = some[i%len(some)]
				i /= len(some)
			}
			checkParse(t, b)
		}
	}
}

// P3.3 for each string of two bytes.
func TestParseTwoBytes(t *testing.T) {
	for i := range 1 << 16 {
		checkParse(t, []byte{byte(i >> 8), byte(i)})
	}
}

// random returns an element of at most this depth, which is well formed.
func random(r *rand.Rand, depth int) ber.Element {
	numbers := []int{0, 1, 2, 4, 16, 30, 31, 127, 128, 16383, 16384, 1<<21 - 1, 1 << 21, 1<<28 - 1}
	x := ber.Element{Tag: tag.Tag{Class: r.Intn(4), Made: depth > 1 && r.Intn(3) > 0, Number: numbers[r.Intn(len(numbers))]}}
	if x.Tag.Made {
		for range r.Intn(4) {
			x.Kids = append(x.Kids, random(r, depth-1))
		}
		return x
	}
	x.Bytes = make([]byte, r.Intn(1+r.Intn(200)))
	for i := range x.Bytes {
		x.Bytes[i] = byte(r.Intn(256))
	}
	return x
}

// P3.1, P3.3 and P3.5 for elements by chance, and for what is left of their bytes when one is changed.
func TestRandom(t *testing.T) {
	r := rand.New(rand.NewSource(3))
	for range 20000 {
		x := random(r, 1+r.Intn(6))
		want, why := modelPut(x)
		b, e := ber.Put(x)
		if string(b) != want || e != why {
			t.Fatalf("%v: %x %v instead of %x %v", x, b, e, want, why)
		}
		if e != api.OK {
			continue
		}
		y, n, e := ber.Parse(append(b, byte(r.Intn(256))))
		if !ber.Same(x, y) || n != len(b) || e != api.OK {
			t.Fatalf("%x: %v %d %v", b, y, n, e)
		}
		for range 5 {
			worse := slices.Clone(b)
			worse[r.Intn(len(b))] = byte(r.Intn(256))
			checkParse(t, worse)
		}
	}
}

// P3.5: what is put is parsed back, whatever follows it, and each proper prefix of it is ErrEnd.
func TestRoundTrip(t *testing.T) {
	all := samples()
	all = append(all, sample{x: nest(plain("xyz"), api.MaxDeep-1)}, sample{x: made(zeros(300), nest(zeros(300), 20), zeros(3000))}, sample{x: zeros(16380)})
	for _, s := range all {
		b, e := ber.Put(s.x)
		if e != api.OK {
			t.Fatal(e)
		}
		for _, rest := range []string{"", "\x00", "\x30", "\xff\xff\xff\xff", string(b)} {
			x, n, e := ber.Parse([]byte(string(b) + rest))
			if !ber.Same(x, s.x) || n != len(b) || e != api.OK {
				t.Errorf("%.40x and %.40x: %d %v", b, rest, n, e)
			}
			if n, e := ber.Need([]byte(string(b) + rest)); n != len(b) || e != api.OK {
				t.Errorf("%.40x and %.40x: %d %v", b, rest, n, e)
			}
		}
		for size := range b {
			wantParse(t, string(b[:size]), api.ErrEnd)
		}
	}
}

// P3.4.
func TestSame(t *testing.T) {
	base := func() ber.Element { return made(plain("a"), made(plain("b"), made(), plain("")), plain("c")) }
	if !ber.Same(base(), base()) || !ber.Same(ber.Element{}, ber.Element{}) {
		t.Error("an element is not the same as itself")
	}
	for name, change := range map[string]func(x *ber.Element){
		"class":       func(x *ber.Element) { x.Tag.Class = 1 },
		"made":        func(x *ber.Element) { x.Tag.Made = !x.Tag.Made },
		"number":      func(x *ber.Element) { x.Tag.Number++ },
		"more bytes":  func(x *ber.Element) { x.Bytes = append(x.Bytes, 0) },
		"other bytes": func(x *ber.Element) { x.Bytes = []byte("ab") },
		"more kids":   func(x *ber.Element) { x.Kids = append(x.Kids, ber.Element{}) },
		"other kids":  func(x *ber.Element) { x.Kids = []ber.Element{plain("x"), plain("y"), plain("z"), plain("z")} },
	} {
		for place, at := range map[string]func(x *ber.Element) *ber.Element{
			"top":          func(x *ber.Element) *ber.Element { return x },
			"first":        func(x *ber.Element) *ber.Element { return &x.Kids[0] },
			"middle":       func(x *ber.Element) *ber.Element { return &x.Kids[1] },
			"last":         func(x *ber.Element) *ber.Element { return &x.Kids[2] },
			"deep, first":  func(x *ber.Element) *ber.Element { return &x.Kids[1].Kids[0] },
			"deep, middle": func(x *ber.Element) *ber.Element { return &x.Kids[1].Kids[1] },
			"deep, last":   func(x *ber.Element) *ber.Element { return &x.Kids[1].Kids[2] },
		} {
			x, y := base(), base()
			change(at(&y))
			if ber.Same(x, y) || ber.Same(y, x) || !ber.Same(y, y) {
				t.Errorf("%s, %s", name, place)
			}
		}
	}
	if ber.Same(plain("ab"), plain("ba")) || ber.Same(made(plain("a"), plain("b")), made(plain("b"), plain("a"))) {
		t.Error("an order does not matter")
	}
	if ber.Same(made(plain("a"), plain("b")), made(plain("a"))) || ber.Same(plain("a"), plain("ab")) {
		t.Error("an end does not matter")
	}
}

// P3.4 with rule 3, and for elements that are not well formed.
func TestSameOfOthers(t *testing.T) {
	empty := ber.Element{Bytes: []byte{}, Kids: []ber.Element{}}
	if !ber.Same(empty, ber.Element{}) || !ber.Same(ber.Element{}, empty) || !ber.Same(made(empty), made(ber.Element{})) {
		t.Error("an empty list is not the same as none")
	}
	for name, x := range malformed() {
		for other, y := range malformed() {
			if ber.Same(x, y) != (name == other) || ber.Same(made(plain(""), x), made(plain(""), y)) != (name == other) {
				t.Errorf("%s and %s", name, other)
			}
		}
	}
}

// P3.4 is an equality of random elements.
func TestSameRandom(t *testing.T) {
	r := rand.New(rand.NewSource(4))
	var all []ber.Element
	for range 400 {
		all = append(all, random(r, 1+r.Intn(3)))
	}
	for _, x := range all {
		for _, y := range all {
			if ber.Same(x, y) != modelSame(x, y) {
				t.Fatalf("%v and %v", x, y)
			}
		}
	}
}

// Rule 1: as in TestPutEnds.
func TestSameEnds(t *testing.T) {
	smallStack(t)
	for name, other := range map[string]func(s string) ber.Element{
		"chain":        func(s string) ber.Element { return nest(plain(s), far) },
		"shared":       func(s string) ber.Element { return shared(plain(s), 100, 1000) },
		"endless":      func(s string) ber.Element { return endless(plain(s)) },
		"endless deep": func(s string) ber.Element { return made(endless(plain("c")), nest(endless(plain(s)), 50)) },
	} {
		if !ber.Same(other("a"), other("a")) {
			t.Errorf("%s: other", name)
		}
		if ber.Same(other("a"), other("b")) {
			t.Errorf("%s: same", name)
		}
	}
	if ber.Same(nest(plain(""), far), nest(plain(""), far+1)) {
		t.Error("chains of different depths are the same")
	}
	if ber.Same(endless(plain("")), made(plain(""), made(plain(""), made()))) {
		t.Error("an endless element is the same as one that ends")
	}
	// Where one list is met again beside another one, it is compared again.
	one := made(plain("a"))
	if ber.Same(made(one, one), made(one, made(plain("b")))) || ber.Same(made(one, made(plain("b"))), made(one, one)) {
		t.Error("a list is the same as another one")
	}
	// Two lists that begin at one place are compared to their ends.
	kids, others := []ber.Element{plain("a"), plain("b")}, []ber.Element{plain("a"), plain("c")}
	if ber.Same(made(made(kids[:1]...), made(kids...)), made(made(others[:1]...), made(others...))) {
		t.Error("the second elements of two lists are not compared")
	}
	// So are those that end at one place, from their beginnings on.
	kids, others = []ber.Element{plain("a"), plain("b")}, []ber.Element{plain("c"), plain("b")}
	if ber.Same(made(made(kids[1:]...), made(kids...)), made(made(others[1:]...), made(others...))) {
		t.Error("the first elements of two lists are not compared")
	}
}

// Rule 1 for lists that share memory without being one: each is looked at.
func TestPutOverlapping(t *testing.T) {
	kids := []ber.Element{plain("a"), {Tag: tag.Tag{Class: 9}}, nest(plain(""), api.MaxDeep)}
	wantPut(t, "the first alone", made(made(kids[:1]...)), api.OK)
	wantPut(t, "first one, then two", made(made(kids[:1]...), made(kids[:2]...)), api.ErrArg)
	kids[1] = plain("b")
	wantPut(t, "first one, then two", made(made(kids[:1]...), made(kids[:2]...)), api.OK)
	wantPut(t, "first two, then three", made(made(kids[:2]...), made(kids...)), api.ErrDeep)
	wantPut(t, "first three, then two", made(made(kids...), made(kids[:2]...)), api.ErrDeep)
	slices.Reverse(kids)
	wantPut(t, "the last two, then three", made(made(kids[1:]...), made(kids...)), api.ErrDeep)
	kids[0] = ber.Element{Tag: tag.Tag{Number: -1}}
	wantPut(t, "the last two, then three", made(made(kids[1:]...), made(kids...)), api.ErrArg)
}

// Rules 4 and 8: arguments are left as they are, with the memory after their ends.
func TestArgumentsRemain(t *testing.T) {
	whole := []byte("abcdef")
	kids := []ber.Element{{Tag: tag.Tag{Number: 4}, Bytes: whole[:3]}, {Tag: tag.Tag{Made: true}, Bytes: whole[:0]}, plain("rest")}
	x := ber.Element{Tag: tag.Tag{Made: true}, Bytes: whole[:0], Kids: kids[:2]}
	b, e := ber.Put(x)
	if string(b) != "\x20\x07\x04\x03abc\x20\x00" || e != api.OK {
		t.Errorf("%x %v", b, e)
	}
	x.Kids[1].Kids = kids[:1]
	if b, e := ber.Put(x); string(b) != "\x20\x0c\x04\x03abc\x20\x05\x04\x03abc" || e != api.OK {
		t.Errorf("%x %v", b, e)
	}
	if string(whole) != "abcdef" || string(kids[0].Bytes) != "abc" || !ber.Same(kids[2], plain("rest")) || len(x.Kids) != 2 {
		t.Errorf("%s %v", whole, kids)
	}
	s := "\x30\x06\x04\x01x\x04\x01y\x04"
	in := []byte(s)
	if y, n, e := ber.Parse(in[:8]); !ber.Same(y, made(plain("x"), plain("y"))) || n != 8 || e != api.OK || string(in) != s {
		t.Errorf("%x %v %d %v", in, y, n, e)
	}
	if _, e := ber.Need(in[:1]); e != api.ErrEnd {
		t.Error(e)
	}
	if _, _, e := ber.Parse(in[:7]); e != api.ErrEnd {
		t.Error(e)
	}
}

// spoil overwrites all memory of b, and spoilElement that of x.
func spoil(b []byte) {
	b = b[:cap(b)]
	for i := range b {
		b[i] = 'X'
	}
}

func spoilElement(x ber.Element) {
	spoil(x.Bytes)
	for _, kid := range x.Kids {
		spoilElement(kid)
	}
	kids := x.Kids[:cap(x.Kids)]
	for i := range kids {
		kids[i] = plain("spoilt")
	}
}

// Rule 4: results are new memory, and each list of one is too.
func TestResultsAreNew(t *testing.T) {
	for _, s := range samples() {
		x := s.x
		b, _ := ber.Put(x)
		spoil(b)
		if again, e := ber.Put(x); string(again) != s.bytes || e != api.OK {
			t.Errorf("%x: %x %v", s.bytes, again, e)
		}
		in := []byte(s.bytes)
		y, _, _ := ber.Parse(in)
		z, _, _ := ber.Parse(in)
		spoilElement(y)
		if string(in) != s.bytes || !ber.Same(z, x) {
			t.Errorf("%x: %x %v", s.bytes, in, z)
		}
		spoil(in)
		if !ber.Same(z, x) {
			t.Errorf("%x: %v", s.bytes, z)
		}
	}
	x, _, _ := ber.Parse([]byte("\x30\x0c\x30\x04\x04\x00\x04\x00\x30\x04\x04\x00\x04\x00"))
	spoilElement(x.Kids[0])
	if want := made(plain(""), plain("")); !ber.Same(x.Kids[1], want) {
		t.Errorf("%v", x.Kids[1])
	}
	y, _, _ := ber.Parse([]byte("\x30\x08\x04\x02ab\x04\x02cd"))
	spoil(y.Kids[0].Bytes)
	if !bytes.Equal(y.Kids[1].Bytes, []byte("cd")) {
		t.Errorf("%v", y.Kids[1])
	}
}
