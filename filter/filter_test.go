package filter_test

import (
	"math"
	"runtime/debug"
	"slices"
	"strconv"
	"strings"
	"testing"
	"unsafe"

	"peerage/api"
	"peerage/ber"
	"peerage/filter"
	"peerage/tag"
)

// simpleKinds are the kinds with a Type and a Value.
var simpleKinds = []int{filter.Equal, filter.Least, filter.Most, filter.Like}

// and, or and not return filters of filters.
func and(kids ...filter.Filter) filter.Filter { return filter.Filter{Kind: filter.And, Kids: kids} }
func or(kids ...filter.Filter) filter.Filter  { return filter.Filter{Kind: filter.Or, Kids: kids} }
func not(kids ...filter.Filter) filter.Filter { return filter.Filter{Kind: filter.Not, Kids: kids} }

// is returns a filter with a value.
func is(about, value string) filter.Filter {
	return filter.Filter{Kind: filter.Equal, Type: about, Value: value}
}

// kind returns a filter of this kind with a value.
func kind(kind int, about, value string) filter.Filter {
	return filter.Filter{Kind: kind, Type: about, Value: value}
}

// present returns a filter with a type only.
func present(about string) filter.Filter {
	return filter.Filter{Kind: filter.Present, Type: about}
}

// sought returns a filter with parts.
func sought(about, first, last string, between ...string) filter.Filter {
	return filter.Filter{Kind: filter.Sought, Type: about, First: first, Last: last, Between: between}
}

// wantFilter holds Right, Text and Put of f against the model, and reads back what they return (P14.6). It tells whether f is valid.
func wantFilter(t *testing.T, f filter.Filter) bool {
	t.Helper()
	right := modelRight(f)
	if got := filter.Right(f); got != right {
		t.Errorf("Right of %#v: %v", f, got)
	}
	text, x := filter.Text(f), filter.Put(f)
	if !right {
		if text != "" || !sameElement(x, ber.Element{}) {
			t.Errorf("%#v: Text %q, Put %#v", f, text, x)
		}
		return false
	}
	if want := modelText(f); text != want {
		t.Errorf("Text of %#v: %q instead of %q", f, text, want)
	}
	if want := modelPut(f); !sameElement(x, want) {
		t.Errorf("Put of %#v: %#v instead of %#v", f, x, want)
	}
	if back, e := filter.Read(x); !equal(back, f) || e != api.OK {
		t.Errorf("Read of the element of %#v: %#v %d", f, back, e)
	}
	want, wantError := f, api.OK
	if len(text) > maxText {
		want, wantError = filter.Filter{}, api.ErrBig
	}
	if back, e := filter.Parse(text); !equal(back, want) || e != wantError {
		t.Errorf("Parse of %q: %#v %d", text, back, e)
	}
	if !filter.Same(f, f) {
		t.Errorf("Same of %#v", f)
	}
	return true
}

// wantParse holds Parse of s against the model. It tells which error there is.
func wantParse(t *testing.T, s string) api.Errno {
	t.Helper()
	want, wantError := modelParse(s)
	if f, e := filter.Parse(s); !equal(f, want) || e != wantError {
		t.Errorf("Parse of %q: %#v %d instead of %#v %d", s, f, e, want, wantError)
	}
	return wantError
}

// wantRead holds Read of x against the model. It tells which error there is.
func wantRead(t *testing.T, x ber.Element) api.Errno {
	t.Helper()
	want, wantError := modelRead(x)
	if f, e := filter.Read(x); !equal(f, want) || e != wantError {
		t.Errorf("Read of %#v: %#v %d instead of %#v %d", x, f, e, want, wantError)
	}
	return wantError
}

// eachByte calls do with each byte as a string.
func eachByte(do func(c string)) {
	for c := range 256 {
		do(string([]byte{byte(c)}))
	}
}

func TestKinds(t *testing.T) {
	if !slices.Equal([]int{filter.And, filter.Or, filter.Not, filter.Equal, filter.Sought, filter.Least, filter.Most, filter.Present, filter.Like}, []int{0, 1, 2, 3, 4, 5, 6, 7, 8}) {
		t.Error("kinds")
	}
}

// samples returns filters with their texts.
func samples() map[string]filter.Filter {
	return map[string]filter.Filter{
		"(&)": and(), "(|)": or(), "(!(&))": not(and()), "(&(|)(&))": and(or(), and()),
		"(&(cn=a)(!(sn=b*)))":   and(is("cn", "a"), not(sought("sn", "b", ""))),
		"(|(cn=a)(cn=a)(cn=b))": or(is("cn", "a"), is("cn", "a"), is("cn", "b")),
		"(cn=a)":                is("cn", "a"), "(cn=)": is("cn", ""), "(cn= )": is("cn", " "), "(cn==)": is("cn", "="), "(cn=>=5)": is("cn", ">=5"), "(cn=&)": is("cn", "&"), "(cn=!~<>|)": is("cn", "!~<>|"),
		"(cn>=5)": kind(filter.Least, "cn", "5"), "(cn<=5)": kind(filter.Most, "cn", "5"), "(cn~=5)": kind(filter.Like, "cn", "5"),
		"(cn>=)": kind(filter.Least, "cn", ""), "(cn<=)": kind(filter.Most, "cn", ""), "(cn~=)": kind(filter.Like, "cn", ""),
		"(cn>==)": kind(filter.Least, "cn", "="), "(cn<=>=<)": kind(filter.Most, "cn", ">=<"), "(cn~=~)": kind(filter.Like, "cn", "~"), `(cn>=\2a)`: kind(filter.Least, "cn", "*"),
		"(cn=*)": present("cn"), `(cn=\2a)`: is("cn", "*"), `(cn=\2a\2a)`: is("cn", "**"), "(1.2.3;a;b=*)": present("1.2.3;a;b"),
		"(cn=a*)": sought("cn", "a", ""), "(cn=*a)": sought("cn", "", "a"), "(cn=*a*)": sought("cn", "", "", "a"), "(cn=a*b)": sought("cn", "a", "b"), "(cn=a*b*c*d)": sought("cn", "a", "d", "b", "c"), "(cn=*b*c*)": sought("cn", "", "", "b", "c"),
		`(cn=\2a*)`: sought("cn", "*", ""), `(cn=*\2a)`: sought("cn", "", "*"), `(cn=*\2a*)`: sought("cn", "", "", "*"), `(cn=\28*\29*\5c*\00)`: sought("cn", "(", "\x00", ")", "\\"), "(cn= * * )": sought("cn", " ", " ", " "), "(cn==*=)": sought("cn", "=", "="),
		`(cn=\28\29\5c\2a\00)`: is("cn", "()\\*\x00"), "(cn=\u00e4)": is("cn", "\u00e4"), `(cn=\c3)`: is("cn", "\xc3"), `(cn=a\ff\c3\a4)`: is("cn", "a\xff\u00e4"), "(cn=\x01\n\x7f)": is("cn", "\x01\n\x7f"),
		// Whether a string is valid UTF-8 is asked of each part by itself.
		`(cn=\c3*\a4)`: sought("cn", "\xc3", "\xa4"), "(cn=\u00e4*\\a4)": sought("cn", "\u00e4", "\xa4"), `(cn=\c3*` + "\u00e4" + `*)`: sought("cn", "\xc3", "", "\u00e4"), `(cn=\a4*\c3*` + "\u00e4)": sought("cn", "\xa4", "\u00e4", "\xc3"),
		"(cn;lang-de=x)": is("cn;lang-de", "x"), "(2.5.4.3=x)": is("2.5.4.3", "x"), "(x-1=x)": is("x-1", "x"), "(x->=x)": kind(filter.Least, "x-", "x"), "(x;-<=x)": kind(filter.Most, "x;-", "x"),
	}
}

// P14.2, P14.3, P14.6.
func TestTextAndParse(t *testing.T) {
	for s, f := range samples() {
		if got := filter.Text(f); got != s {
			t.Errorf("Text of %#v: %q instead of %q", f, got, s)
		}
		if got, e := filter.Parse(s); !equal(got, f) || e != api.OK {
			t.Errorf("Parse of %q: %#v %d", s, got, e)
		}
		if !wantFilter(t, f) {
			t.Errorf("%q is not valid", s)
		}
		wantParse(t, s)
	}
}

// P14.3: texts that differ from the text of their filter.
func TestParseOtherTexts(t *testing.T) {
	for s, want := range map[string]filter.Filter{
		"(CN=A)": is("cn", "A"), "(2.5.4.3;X=A)": is("2.5.4.3;x", "A"), "(Cn;b;A;B;a=x)": is("cn;a;b", "x"), "(CN=*)": present("cn"), "(CN;Z;y>=x)": kind(filter.Least, "cn;y;z", "x"), "(CN<=X)": kind(filter.Most, "cn", "X"), "(CN~=X)": kind(filter.Like, "cn", "X"), "(CN=A*)": sought("cn", "A", ""),
		`(cn=\61)`: is("cn", "a"), `(cn=\4A\4a)`: is("cn", "JJ"), `(cn=\2A)`: is("cn", "*"), `(cn=\20)`: is("cn", " "), `(cn=\3d)`: is("cn", "="), `(cn=\c3\a4)`: is("cn", "\u00e4"), "(cn=\xc3)": is("cn", "\xc3"), "(cn=\xff\\5C)": is("cn", "\xff\\"), "(cn=\xc3*\xa4)": sought("cn", "\xc3", "\xa4"),
		`(cn=\61*)`: sought("cn", "a", ""), `(cn=*\61)`: sought("cn", "", "a"), `(cn=*\61*)`: sought("cn", "", "", "a"), `(cn>=\61)`: kind(filter.Least, "cn", "a"), `(cn<=\61\62)`: kind(filter.Most, "cn", "ab"), `(cn~=\6A)`: kind(filter.Like, "cn", "j"),
		`(&(CN=\61)(|(!(SN=*))(b;B=\2A*\2A)))`: and(is("cn", "a"), or(not(present("sn")), sought("b;b", "*", "*"))),
		"(" + strings.Repeat("N", 64) + "=a)":  is(strings.Repeat("n", 64), "a"), "(cn" + strings.Repeat(";X", 31) + "=a)": is("cn;x", "a"),
	} {
		if got, e := filter.Parse(s); !equal(got, want) || e != api.OK {
			t.Errorf("Parse of %q: %#v %d", s, got, e)
		}
		wantParse(t, s)
	}
}

// P14.3: strings that are the texts of no filter.
func TestParseInvalid(t *testing.T) {
	for _, s := range []string{
		"", " ", "(", ")", "()", "(())", ")(", "((", "))", "cn=a", "(cn=a", "cn=a)", "(cn=a))", "((cn=a)", "((cn=a))", "(cn=a)(cn=b)", " (cn=a)", "(cn=a) ", "(cn=a)\x00", "( cn=a)", "(cn =a)", "(cn=a)x", "x(cn=a)",
		"(cn)", "(=)", "(=a)", "(>=a)", "(<=a)", "(~=a)", "(cn>a)", "(cn<a)", "(cn~a)", "(cn>)", "(cn:=a)", "(cn:dn:=a)", "(cn> =a)", "(cn>>=a)", "(cn<>=a)", "(cn=>a=*(b))", "(cn>a=b)", "(c*n=a)", "(*=a)", "(cn;=a)", "(;a=a)", "(cn;;a=a)", "(1a=x)", "(1=x)", "(3.1=x)", "(1.40=x)", "(cn.a=x)", "(c\u00e4=a)", `(\63n=a)`, `(cn\3da)`, `(cn\3d=)`, "(c&=a)", "(cn|=a)", "(cn!=a)",
		"(cn=**)", "(cn=***)", "(cn=a**)", "(cn=**a)", "(cn=a**b)", "(cn=a*b**c)", "(cn=*a**)", "(cn>=*)", "(cn<=*)", "(cn~=*)", "(cn>=a*)", "(cn<=*a)", "(cn~=a*b)", "(cn>=a*b*)",
		`(cn=\)`, `(cn=\2)`, `(cn=\2g)`, `(cn=\g2)`, `(cn=\*)`, `(cn=\\)`, `(cn=a\)`, `(cn=\28\2)`, `(cn=\ 2a)`, `(cn=\2*a)`, `(cn=a*\2)`, `(cn=\*a)`, `(cn=a*\2*b)`, `(cn>=\2)`, `(cn<=\zz)`, `(cn~=\)`, "(cn=\x00)", "(cn=a*\x00)", "(cn=*\x00*)", "(cn>=\x00)", "(cn=(a)", "(cn=(a))", "(cn=a()", "(cn=a(b)", `(cn=\28a))`, "(cn=(*)", "(cn=a*(b)", "(cn=()*)",
		"&", "|", "!", "&(cn=a)", "(&", "(|", "(!", "(!)", "(!())", "(&()", "(&())", "(&&)", "(&|)", "(!&)", "(&cn=a)", "(|cn=a)", "(!cn=a)", "(&=a)", "(!=a)", "(|=*)", "(!(cn=a)(cn=b))", "(!(cn=a)", "(!(cn=a)))", "(! (cn=a))", "(!(cn=a) )", "(&(cn=a) (cn=b))", "(& (cn=a))", "(&(cn=a) )", "(&(cn=a)x)", "(&x(cn=a))", "(&(cn=a),(cn=b))", "(&(cn=a)", "(&(cn=a)(cn=b)", "(&(cn=a)(cn=b)))", "(&(cn=a)cn=b)", "(&(cn=a)*)", "(!(&)(|))", "(&(!))", "(|(cn=a)(!(x)))", "(cn=a(&))", "((&))", "(cn(&)=a)", "(and(cn=a))", "( &(cn=a))",
		"(" + strings.Repeat("n", 65) + "=a)", "(cnx" + strings.Repeat(";x", 31) + "=a)", "(" + strings.Repeat("n", 65) + "=*)", strings.Repeat("(", 4096), strings.Repeat(")", 4096), strings.Repeat("(&", 2048), strings.Repeat("(!", 2048), "(cn=" + strings.Repeat("*", 4091) + ")",
	} {
		if f, e := filter.Parse(s); !equal(f, filter.Filter{}) || e != api.ErrForm {
			t.Errorf("Parse of %q: %#v %d", s, f, e)
		}
		wantParse(t, s)
	}
}

// P14.3: ErrBig, whatever else is wrong.
func TestParseBig(t *testing.T) {
	for _, s := range []string{"(cn=%)", "(cn=*%)", "(cn>=%)", "(&(cn=a)(!(sn=%)))"} {
		most := maxText - len(s) + 1
		fill := func(n int) string { return strings.Replace(s, "%", strings.Repeat("v", n), 1) }
		for n, want := range map[int]api.Errno{most - 1: api.OK, most: api.OK, most + 1: api.ErrBig, most + 2: api.ErrBig, 3 * most: api.ErrBig} {
			if e := wantParse(t, fill(n)); e != want {
				t.Errorf("%d bytes: %d", len(fill(n)), e)
			}
		}
	}
	for _, c := range []string{"(", ")", "a", "\x00", "\xff", "(&", "(cn=a)"} {
		for n := 4094; n <= 4100; n++ {
			want := api.ErrForm
			if n > maxText {
				want = api.ErrBig
			}
			if f, e := filter.Parse(strings.Repeat(c, n)[:n]); !equal(f, filter.Filter{}) || e != want {
				t.Errorf("%d bytes of %q: %#v %d", n, c, f, e)
			}
		}
	}
	// Bytes count before they are decoded, and also where the filter's text has fewer.
	digits := strings.Repeat(`\61`, 1363)
	for s, want := range map[string]api.Errno{"(cn=" + digits + "ab)": api.OK, "(cn=" + digits + "abc)": api.ErrBig, "(cn=" + digits + `\62)`: api.ErrBig} {
		if e := wantParse(t, s); e != want {
			t.Errorf("%d bytes: %d", len(s), e)
		}
	}
	// A valid filter may have a text that is too long to be parsed.
	if f := is("cn", strings.Repeat("\x00", 2000)); !wantFilter(t, f) {
		t.Error("not valid")
	}
	if f := sought("cn", strings.Repeat("a", 5000), strings.Repeat("b", 5000), strings.Repeat("c", 5000)); !wantFilter(t, f) {
		t.Error("not valid")
	}
	if f := sought("cn", "", "", slices.Repeat([]string{"a"}, 5000)...); !wantFilter(t, f) {
		t.Error("not valid")
	}
}

// P14.1: each kind with each choice of fields that are not empty.
func TestRightFields(t *testing.T) {
	kinds := []int{math.MinInt, -9, -1, 0, 1, 2, 3, 4, 5, 6, 7, 8, 9, 10, 16, 256, 1 << 32, 1<<32 + 3, math.MaxInt}
	between := [][]string{nil, {"b"}, {"b", "c"}, {""}, {"", "b"}, {"b", ""}, {"b", "", "c"}, {"", ""}}
	kids := [][]filter.Filter{nil, {present("cn")}, {present("cn"), and()}, {present("")}, {{}}, {{Kind: 9}}, {and(), {Kind: -1}}}
	valid := 0
	for _, k := range kinds {
		for _, about := range []string{"", "cn", "CN", "cn;a;b", "cn;b;a", "1.2", "1a"} {
			for bits := range 8 {
				pick := func(bit int, s string) string { return strings.Repeat(s, bits>>bit&1) }
				for _, b := range between {
					for _, l := range kids {
						if wantFilter(t, filter.Filter{Kind: k, Kids: l, Type: about, Value: pick(0, "v"), First: pick(1, "f"), Last: pick(2, "l"), Between: b}) {
							valid++
						}
					}
				}
			}
		}
	}
	// And and Or: kids valid or none. Not: those with one. The rest: three types that are normal.
	if want := 2*4 + 2 + 3*(4*2+1+(4*3-1)); valid != want {
		t.Errorf("%d instead of %d", valid, want)
	}
	for k := range 9 {
		f := filter.Filter{Kind: k, Kids: []filter.Filter{}, Between: []string{}}
		if wantFilter(t, f) != (k < filter.Not) {
			t.Error(k)
		}
		f.Type, f.Last = "cn", "l"
		if wantFilter(t, f) != (k == filter.Sought) {
			t.Error(k)
		}
	}
}

// P14.1: descriptions in normal form and others.
func TestRightTypes(t *testing.T) {
	for s, want := range map[string]bool{
		"cn": true, "x": true, "x-1": true, "2.5.4.3": true, "cn;a": true, "cn;a;b": true, "cn;-": true, "0.0;0": true, "cn;cn": true, strings.Repeat("n", 64): true, "cn;" + strings.Repeat("o", 61): true,
		"": false, "CN": false, "cN": false, "cn;A": false, "cn;b;a": false, "cn;a;a": false, "cn;": false, ";a": false, "1": false, "1a": false, "3.1": false, " cn": false, "cn ": false, "cn=": false, "c\u00e4": false, "cn\x00": false, "cn;a;b;a": false, "cn:": false, "cn>": false, strings.Repeat("n", 65): false, strings.Repeat("n", 5000): false, "cn;" + strings.Repeat("o", 62): false,
	} {
		l := []filter.Filter{present(s), sought(s, "a", ""), sought(s, "", "a"), sought(s, "", "", "a")}
		for _, k := range simpleKinds {
			l = append(l, kind(k, s, ""), kind(k, s, "a"))
		}
		for _, f := range l {
			for _, g := range []filter.Filter{f, not(f), and(or(), f), or(f, and()), and(or(not(f)))} {
				if got := wantFilter(t, g); got != want {
					t.Errorf("%#v: %v", g, got)
				}
			}
		}
	}
}

// chain returns f within so many filters of one kind, beside which there is what only And and Or have room for.
func chain(f filter.Filter, times, k int, beside ...filter.Filter) filter.Filter {
	for range times {
		f = filter.Filter{Kind: k, Kids: append([]filter.Filter{f}, beside...)}
	}
	return f
}

// wantAll holds all functions against the model for f and what it is written as, even where it is not valid. It tells whether f is valid.
func wantAll(t *testing.T, f filter.Filter) bool {
	t.Helper()
	right := wantFilter(t, f)
	for _, e := range []api.Errno{wantParse(t, modelText(f)), wantRead(t, modelPut(f))} {
		if (e == api.OK) != right {
			t.Errorf("%#v: %v %d", f, right, e)
		}
	}
	return right
}

// The limit of the depth, and one beyond it.
func TestDepth(t *testing.T) {
	leaves := []filter.Filter{and(), or(), is("cn", "a"), present("cn"), sought("cn", "a", ""), kind(filter.Like, "cn", "")}
	for _, leaf := range leaves {
		for k := range 3 {
			for times := range 25 {
				if got := wantAll(t, chain(leaf, times, k)); got != (times < maxDeep) {
					t.Errorf("%d times %d: %v", times, k, got)
				}
			}
		}
		for times := range 12 {
			for _, f := range []filter.Filter{chain(leaf, times, filter.And, or()), and(or(), chain(leaf, times, filter.Not)), or(and(and()), chain(leaf, times, filter.Or), leaf)} {
				_, depth := size(f)
				if got := wantAll(t, f); got != (depth <= maxDeep) {
					t.Errorf("depth %d: %v", depth, got)
				}
			}
		}
	}
}

// The limit of how many filters there are, and one beyond it.
func TestCount(t *testing.T) {
	leaves := []filter.Filter{and(), or(), is("cn", "a"), present("cn"), sought("cn", "a", "")}
	for _, leaf := range leaves {
		for n := 55; n < 75; n++ {
			row := slices.Repeat([]filter.Filter{leaf}, n)
			for _, f := range []filter.Filter{
				and(row...), or(row...), not(and(row...)), and(or(row[:30]...), or(row[30:]...)), or(append([]filter.Filter{not(leaf)}, row...)...), and(append(slices.Clone(row), not(not(or())))...), chain(and(row...), 8, filter.Not),
				chain(and(row[:n/9]...), 8, filter.Or, row[:n/9-1]...),
			} {
				count, _ := size(f)
				if got := wantAll(t, f); got != (count <= maxCount) {
					t.Errorf("%d: %v", count, got)
				}
			}
		}
		if wantAll(t, and(slices.Repeat([]filter.Filter{leaf}, 500)...)) {
			t.Error("500")
		}
	}
	// A list that is there several times counts each time.
	pair := []filter.Filter{is("cn", "a"), is("cn", "b")}
	for times := range 8 {
		if got := wantAll(t, and(pair...)); got != (times < 5) {
			t.Errorf("%d times: %v", times, got)
		}
		pair = []filter.Filter{and(pair...), and(pair...)}
	}
}

// P14.2 to P14.6: each byte in each place of a value and of a type.
func TestEachByte(t *testing.T) {
	eachByte(func(c string) {
		for _, s := range []string{c, "a" + c, c + "a", "a" + c + "b", "\u00e4" + c, c + "\xff", c + c} {
			l := []filter.Filter{sought("cn", s, ""), sought("cn", "", s), sought("cn", "", "", s), sought("cn", "a", s, s, "b")}
			for _, k := range simpleKinds {
				l = append(l, kind(k, "cn", s))
			}
			for _, f := range l {
				if !wantFilter(t, f) {
					t.Errorf("%#v", f)
				}
			}
			for _, text := range []string{"(cn=" + s + ")", "(cn>=" + s + ")", "(cn<=" + s + ")", "(cn~=" + s + ")", "(cn=" + s + "*)", "(cn=*" + s + ")", "(cn=*" + s + "*)", "(cn=a*" + s + "*b)", `(cn=\` + s + ")", `(cn=\6` + s + ")", `(cn=\` + s + "1)", "(" + s + "=a)", "(" + s + ">=a)", "(" + s + "=*)", "(x" + s + "=a)", "(" + s + ")", "(" + s + "(cn=a))", "(&" + s + ")", "(!" + s + "(cn=a))", "(&(cn=a)" + s + "(cn=b))", s + "(cn=a)", "(cn=a)" + s, s} {
				wantParse(t, text)
			}
			for _, f := range []filter.Filter{is(s, "a"), present(s), sought(s, "a", ""), not(kind(filter.Least, s, ""))} {
				wantFilter(t, f)
				wantRead(t, modelPut(f))
			}
		}
	})
}

// P14.3: each byte of some texts left out, changed, and put in.
func TestEachChange(t *testing.T) {
	accepted := 0
	for _, s := range []string{"(&(cn=a)(!(sn=b*)))", `(|(CN;b;a>=\2a)(1.2~=x)(&))`, "(!(cn=*\\5c*b*c))", "(x<=\u00e4)", "(cn=*)"} {
		for i := range len(s) {
			wantParse(t, s[:i])
			wantParse(t, s[i:])
			wantParse(t, s[:i]+s[i+1:])
			eachByte(func(c string) {
				if wantParse(t, s[:i]+c+s[i+1:]) == api.OK {
					accepted++
				}
				if wantParse(t, s[:i]+c+s[i:]) == api.OK {
					accepted++
				}
			})
		}
	}
	if accepted < 5000 {
		t.Error(accepted)
	}
}

// P14.4.
func TestPut(t *testing.T) {
	context := func(number int, kids ...ber.Element) ber.Element { return madeOf(tag.Context, number, kids...) }
	octets := func(s string) ber.Element { return bytesOf(tag.Universal, 4, s) }
	parts := func(kids ...ber.Element) ber.Element { return madeOf(tag.Universal, 16, kids...) }
	part := func(number int, s string) ber.Element { return bytesOf(tag.Context, number, s) }
	for _, x := range []struct {
		f    filter.Filter
		want ber.Element
	}{
		{and(), context(0)}, {or(), context(1)}, {not(and()), context(2, context(0))}, {and(or(), present("cn"), and()), context(0, context(1), part(7, "cn"), context(0))},
		{is("cn", "A"), context(3, octets("cn"), octets("A"))}, {is("cn;a", ""), context(3, octets("cn;a"), octets(""))}, {kind(filter.Least, "cn", "*"), context(5, octets("cn"), octets("*"))}, {kind(filter.Most, "1.2", "\xff"), context(6, octets("1.2"), octets("\xff"))}, {kind(filter.Like, "cn", "\x00"), context(8, octets("cn"), octets("\x00"))},
		{sought("cn", "a", ""), context(4, octets("cn"), parts(part(0, "a")))}, {sought("cn", "", "a"), context(4, octets("cn"), parts(part(2, "a")))}, {sought("cn", "", "", "a"), context(4, octets("cn"), parts(part(1, "a")))}, {sought("cn", "a", "b"), context(4, octets("cn"), parts(part(0, "a"), part(2, "b")))},
		{sought("cn", "a", "d", "b", "c", "b"), context(4, octets("cn"), parts(part(0, "a"), part(1, "b"), part(1, "c"), part(1, "b"), part(2, "d")))},
		// What is not valid has no element.
		{not(), ber.Element{}}, {is("CN", "a"), ber.Element{}}, {present(""), ber.Element{}}, {sought("cn", "", ""), ber.Element{}}, {and(or(), filter.Filter{Kind: 9}), ber.Element{}}, {filter.Filter{Kind: 9, Type: "cn"}, ber.Element{}}, {filter.Filter{Kind: -1}, ber.Element{}},
	} {
		if got := filter.Put(x.f); !sameElement(got, x.want) {
			t.Errorf("Put of %#v: %#v", x.f, got)
		}
		wantFilter(t, x.f)
	}
	b, e := ber.Put(filter.Put(and(is("cn", "a"), not(sought("sn", "b", "")))))
	if want := "\xa0\x16\xa3\x07\x04\x02cn\x04\x01a\xa2\x0b\xa4\x09\x04\x02sn\x30\x03\x80\x01b"; string(b) != want || e != api.OK {
		t.Errorf("%x %d", b, e)
	}
}

// P14.5: Types that are not in normal form.
func TestReadTypes(t *testing.T) {
	for s, want := range map[string]string{"CN": "cn", "cn": "cn", "Cn;b;A;B": "cn;a;b", "2.5.4.3;X": "2.5.4.3;x", "cn" + strings.Repeat(";X", 31): "cn;x", strings.Repeat("N", 64): strings.Repeat("n", 64)} {
		for _, k := range []int{filter.Equal, filter.Sought, filter.Least, filter.Most, filter.Present, filter.Like} {
			f := filter.Filter{Kind: k, Type: s}
			switch k {
			case filter.Sought:
				f.First, f.Between = "A", []string{"B"}
			case filter.Present:
			default:
				f.Value = "A"
			}
			x := modelPut(and(not(f)))
			f.Type = want
			if got, e := filter.Read(x); !equal(got, and(not(f))) || e != api.OK {
				t.Errorf("Read of %#v: %#v %d", x, got, e)
			}
			wantRead(t, x)
		}
	}
	for _, s := range []string{"", "1a", "cn;", "cn=", "1.40", " cn", "c\x00", "\xff", "cnx" + strings.Repeat(";x", 31), strings.Repeat("n", 65), strings.Repeat("n", 5000)} {
		for _, f := range []filter.Filter{is(s, "a"), kind(filter.Least, s, ""), kind(filter.Most, s, "a"), kind(filter.Like, s, "a"), present(s), sought(s, "a", ""), and(or(), is(s, "a"))} {
			if got, e := filter.Read(modelPut(f)); !equal(got, filter.Filter{}) || e != api.ErrForm {
				t.Errorf("Read of %q: %#v %d", s, got, e)
			}
			wantRead(t, modelPut(f))
		}
	}
}

// tags are identifiers, right ones and wrong ones for each part.
func tags() []tag.Tag {
	var l []tag.Tag
	for _, class := range []int{tag.Universal, tag.Application, tag.Context, tag.Private, -1, 4} {
		for _, number := range []int{-1, 0, 1, 2, 3, 4, 5, 6, 7, 8, 9, 10, 16, 17, math.MinInt, math.MaxInt} {
			l = append(l, tag.Tag{Class: class, Number: number}, tag.Tag{Class: class, Made: true, Number: number})
		}
	}
	return l
}

// changes calls do with x with each element in it changed in one way, and with one more and one less.
func changes(x ber.Element, do func(ber.Element)) {
	y := x
	for _, y.Tag = range tags() {
		do(y)
	}
	y.Tag = x.Tag
	for _, b := range [][]byte{nil, {}, {0}, []byte("a"), []byte("cn"), append([]byte("x"), x.Bytes...)} {
		y.Bytes = b
		do(y)
	}
	y.Bytes = x.Bytes
	others := []ber.Element{{}, bytesOf(tag.Universal, 4, ""), bytesOf(tag.Universal, 4, "cn"), bytesOf(tag.Context, 0, "a"), bytesOf(tag.Context, 1, "a"), bytesOf(tag.Context, 2, "a"), bytesOf(tag.Context, 1, ""), bytesOf(tag.Context, 3, "a"), madeOf(tag.Context, 1, bytesOf(tag.Universal, 4, "a")), madeOf(tag.Universal, 16), madeOf(tag.Context, 0), bytesOf(tag.Context, 7, "cn")}
	for i := range len(x.Kids) + 1 {
		for _, other := range others {
			y.Kids = slices.Insert(slices.Clone(x.Kids), i, other)
			do(y)
			if i < len(x.Kids) {
				y.Kids = slices.Clone(x.Kids)
				y.Kids[i] = other
				do(y)
			}
		}
	}
	for i := range x.Kids {
		y.Kids = slices.Delete(slices.Clone(x.Kids), i, i+1)
		do(y)
		for j := range i {
			y.Kids = slices.Clone(x.Kids)
			y.Kids[i], y.Kids[j] = y.Kids[j], y.Kids[i]
			do(y)
		}
		y.Kids = slices.Clone(x.Kids)
		changes(x.Kids[i], func(kid ber.Element) {
			y.Kids[i] = kid
			do(y)
		})
	}
}

// P14.5: the elements of filters, changed in each way.
func TestReadChanged(t *testing.T) {
	seen := map[api.Errno]int{}
	for _, f := range samples() {
		changes(modelPut(f), func(x ber.Element) { seen[wantRead(t, x)]++ })
	}
	f := sought("cn", "a", "d", "b", "c")
	f = and(f, or(not(f), is("cn", "a")), present("cn"))
	changes(modelPut(f), func(x ber.Element) { seen[wantRead(t, x)]++ })
	if seen[api.OK] < 1000 || seen[api.ErrForm] < 1000 {
		t.Error(seen)
	}
}

// P14.5: elements of no filter.
func TestReadInvalid(t *testing.T) {
	octets := func(s string) ber.Element { return bytesOf(tag.Universal, 4, s) }
	parts := func(kids ...ber.Element) ber.Element {
		return madeOf(tag.Context, 4, octets("cn"), madeOf(tag.Universal, 16, kids...))
	}
	part := func(number int, s string) ber.Element { return bytesOf(tag.Context, number, s) }
	mixed := madeOf(tag.Context, 0, part(7, "cn"))
	mixed.Bytes = []byte("x")
	kids := part(7, "cn")
	kids.Kids = []ber.Element{octets("a")}
	for i, x := range []ber.Element{
		{}, octets("cn"), madeOf(tag.Universal, 16), part(0, ""), part(3, ""), part(8, ""), part(9, "cn"), part(-1, "cn"), madeOf(tag.Context, 9), madeOf(tag.Context, 9, octets("cn"), octets("a")), madeOf(tag.Context, -1), madeOf(tag.Application, 0), madeOf(tag.Context, 7), madeOf(tag.Context, 7, octets("cn")), mixed, kids,
		madeOf(tag.Context, 2), madeOf(tag.Context, 2, part(7, "cn"), part(7, "cn")), madeOf(tag.Context, 0, part(7, "cn"), octets("cn")),
		madeOf(tag.Context, 3), madeOf(tag.Context, 3, octets("cn")), madeOf(tag.Context, 3, octets("cn"), octets("a"), octets("b")), madeOf(tag.Context, 3, octets("cn"), part(4, "a")), madeOf(tag.Context, 3, part(7, "cn"), octets("a")), madeOf(tag.Context, 4, octets("cn"), octets("a")), madeOf(tag.Context, 3, octets("cn"), madeOf(tag.Universal, 16, part(0, "a"))),
		parts(), parts(part(0, "")), parts(part(1, "")), parts(part(2, "")), parts(part(0, "a"), part(0, "b")), parts(part(2, "a"), part(2, "b")), parts(part(1, "a"), part(0, "b")), parts(part(2, "a"), part(0, "b")), parts(part(2, "a"), part(1, "b")), parts(part(0, "a"), part(1, ""), part(2, "b")), parts(part(0, ""), part(1, "a")), parts(part(1, "a"), part(2, "")), parts(part(0, ""), part(2, "a")), parts(part(0, "a"), part(2, "")), parts(part(0, "a"), part(2, "b"), part(1, "c")), parts(part(1, "a"), part(0, "b"), part(1, "c")), parts(part(3, "a")), parts(part(-1, "a")), parts(octets("a")), parts(madeOf(tag.Context, 0)), parts(madeOf(tag.Context, 1, octets("a"))),
	} {
		if f, e := filter.Read(x); !equal(f, filter.Filter{}) || e != api.ErrForm {
			t.Errorf("%d: Read of %#v: %#v %d", i, x, f, e)
		}
		wantRead(t, x)
	}
}

// P14.4: each element belongs to a message: what ber puts of it is parsed to it again.
func TestElementsAreWellFormed(t *testing.T) {
	for s, f := range samples() {
		b, e := ber.Put(filter.Put(f))
		if e != api.OK {
			t.Errorf("%q: %d", s, e)
		}
		x, _, e := ber.Parse(b)
		if back, bad := filter.Read(x); e != api.OK || bad != api.OK || !equal(back, f) {
			t.Errorf("%q: %x %d %#v %d", s, b, e, back, bad)
		}
	}
}

// P14.1: Same of filters that differ in one thing.
func TestSame(t *testing.T) {
	leaf := filter.Filter{Kind: 4, Kids: []filter.Filter{is("cn", "a")}, Type: "t", Value: "v", First: "f", Last: "l", Between: []string{"a", "b"}}
	var l []filter.Filter
	add := func(change func(f *filter.Filter)) {
		f := leaf
		change(&f)
		l = append(l, f)
	}
	add(func(f *filter.Filter) {})
	for _, k := range []int{-1, 0, 3, 5, 9, math.MinInt, math.MaxInt, 4 + 1<<32} {
		add(func(f *filter.Filter) { f.Kind = k })
	}
	for _, s := range []string{"", "T", "x", "t ", "\xff"} {
		add(func(f *filter.Filter) { f.Type = s })
		add(func(f *filter.Filter) { f.Value = s })
		add(func(f *filter.Filter) { f.First = s })
		add(func(f *filter.Filter) { f.Last = s })
	}
	for _, b := range [][]string{nil, {""}, {"a"}, {"b"}, {"b", "a"}, {"a", "a"}, {"a", "B"}, {"a", "b", ""}, {"", "a", "b"}, {"ab"}, {"a", "", "b"}} {
		add(func(f *filter.Filter) { f.Between = b })
	}
	for _, k := range [][]filter.Filter{nil, {{}}, {is("cn", "b")}, {is("cm", "a")}, {is("cn", "a"), is("cn", "a")}, {is("cn", "a"), {}}, {{}, is("cn", "a")}, {and(is("cn", "a"))}, {kind(filter.Like, "cn", "a")}, {and(or(), and())}, {and(and(), or())}, {and(or(), or())}, {and(or(and()))}, {and(or(or()))}} {
		add(func(f *filter.Filter) { f.Kids = k })
	}
	add(func(f *filter.Filter) { f.Type, f.Value = f.Value, f.Type })
	add(func(f *filter.Filter) { f.First, f.Last = f.Last, f.First })
	add(func(f *filter.Filter) { f.First, f.Value = f.Value, f.First })
	add(func(f *filter.Filter) { f.Type, f.Value = "tv", "" })
	l = append(l, filter.Filter{}, filter.Filter{Kind: 9})
	for i, a := range l {
		for j, b := range l {
			for _, deep := range []int{0, 1, 3, 20} {
				a, b := chain(a, deep, filter.And, or()), chain(b, deep, filter.And, or())
				if got := filter.Same(a, b); got != (i == j) {
					t.Errorf("Same of %#v and %#v: %v", a, b, got)
				}
			}
		}
	}
}

// copied returns a filter that is equal to f and shares no memory with it; an empty list is nil or has no elements, as asked.
func copied(f filter.Filter, empty bool) filter.Filter {
	f.Type, f.Value, f.First, f.Last = strings.Clone(f.Type), strings.Clone(f.Value), strings.Clone(f.First), strings.Clone(f.Last)
	var kids []filter.Filter
	var between []string
	if empty {
		kids, between = []filter.Filter{}, []string{}
	}
	for _, kid := range f.Kids {
		kids = append(kids, copied(kid, empty))
	}
	for _, s := range f.Between {
		between = append(between, strings.Clone(s))
	}
	f.Kids, f.Between = kids, between
	return f
}

// P14.1 and rule 3: Same of copies, and of all samples.
func TestSameSamples(t *testing.T) {
	all := samples()
	for a, f := range all {
		for b, g := range all {
			if got := filter.Same(f, g); got != (a == b) {
				t.Errorf("Same of %q and %q: %v", a, b, got)
			}
		}
		if !filter.Same(f, copied(f, true)) || !filter.Same(copied(f, false), f) || !filter.Same(copied(f, true), copied(f, false)) {
			t.Errorf("Same of %q and its copies", a)
		}
		wantFilter(t, copied(f, true))
	}
}

// smallStack lets calls within calls fail at a great depth until the test ends.
func smallStack(t *testing.T) {
	before := debug.SetMaxStack(1 << 20)
	t.Cleanup(func() { debug.SetMaxStack(before) })
}

// Rule 1: filters that are very deep.
func TestDeepFilters(t *testing.T) {
	smallStack(t)
	for k := range 4 {
		a, b, c := chain(and(), 1<<17, k), chain(and(), 1<<17, k), chain(or(), 1<<17, k)
		if !filter.Same(a, b) || filter.Same(a, c) || filter.Same(a, a.Kids[0]) {
			t.Error("Same", k)
		}
		if filter.Right(a) || filter.Text(a) != "" || !sameElement(filter.Put(a), ber.Element{}) {
			t.Error(k)
		}
	}
	x := madeOf(tag.Context, 0)
	for range 1 << 17 {
		x = madeOf(tag.Context, 2, x)
	}
	if f, e := filter.Read(x); !equal(f, filter.Filter{}) || e != api.ErrForm {
		t.Error(f, e)
	}
}

// endless returns a filter of this kind that contains f, if there is one, and itself.
func endless(k int, f ...filter.Filter) filter.Filter {
	kids := append(slices.Clone(f), filter.Filter{})
	last := &kids[len(kids)-1]
	*last = filter.Filter{Kind: k, Kids: kids}
	return *last
}

// Rule 1: filters that contain themselves.
func TestEndlessFilters(t *testing.T) {
	smallStack(t)
	for k := -1; k < 10; k++ {
		for _, f := range []filter.Filter{endless(k), endless(k, and()), endless(k, is("cn", "a"), or(and())), endless(k, and(and(and())), endless(filter.And))} {
			for _, f := range []filter.Filter{f, not(f), and(or(), f), or(f, or())} {
				if filter.Right(f) || filter.Text(f) != "" || !sameElement(filter.Put(f), ber.Element{}) {
					t.Error(k)
				}
				filter.Same(f, f)
				filter.Same(f, endless(filter.Not))
			}
		}
	}
	if !filter.Same(endless(filter.Or, and()), endless(filter.Or, and())) || filter.Same(endless(filter.Or, and()), endless(filter.Or, or())) || filter.Same(endless(filter.Or, and()), endless(filter.Or)) || filter.Same(endless(filter.And), endless(filter.Or)) {
		t.Error("Same")
	}
}

// Rule 1: filters that share their lists, so often that they can not be visited one by one.
func TestSharedLists(t *testing.T) {
	share := func(leaf filter.Filter) filter.Filter {
		for range 1000 {
			leaf = and(leaf, leaf)
		}
		return leaf
	}
	a, b, c := share(or()), share(or()), share(not())
	if !filter.Same(a, b) || !filter.Same(a, a) || filter.Same(a, c) || filter.Same(a, a.Kids[0]) {
		t.Error("Same")
	}
	if filter.Right(a) || filter.Text(a) != "" || !sameElement(filter.Put(a), ber.Element{}) {
		t.Error("Right")
	}
	// Two lists that begin at one place and are not equally long are not one list.
	long, again, other := []filter.Filter{or(), and(), not()}, []filter.Filter{or(), and(), not()}, []filter.Filter{or(), and(), or()}
	ends := func(l []filter.Filter) []filter.Filter {
		return []filter.Filter{and(and(l[:2]...), and(l...)), and(and(l...), and(l[:2]...))}
	}
	for i := range 2 {
		if !filter.Same(ends(long)[i], ends(again)[i]) || filter.Same(ends(long)[i], ends(other)[i]) || filter.Same(ends(long)[i], ends(long)[1-i]) {
			t.Error("one beginning", i)
		}
	}
	// One list beside two others.
	one := []filter.Filter{or()}
	if filter.Same(and(and(one...), and(one...)), and(and(or()), and(not()))) || filter.Same(and(and(or()), and(not())), and(and(one...), and(one...))) {
		t.Error("one list twice")
	}
}

// Rule 1: elements that contain themselves or share their lists.
func TestEndlessElements(t *testing.T) {
	smallStack(t)
	for number := -1; number < 10; number++ {
		for _, made := range []bool{false, true} {
			own := ber.Element{Tag: tag.Tag{Class: tag.Context, Made: made, Number: number}, Kids: make([]ber.Element, 1)}
			own.Kids[0] = own
			both := own
			both.Kids = make([]ber.Element, 2)
			both.Kids[0], both.Kids[1] = bytesOf(tag.Universal, 4, "cn"), both
			for _, x := range []ber.Element{own, both, madeOf(tag.Context, 0, both, own), madeOf(tag.Context, 4, bytesOf(tag.Universal, 4, "cn"), own), madeOf(tag.Context, 3, bytesOf(tag.Universal, 4, "cn"), both)} {
				if f, e := filter.Read(x); !equal(f, filter.Filter{}) || e != api.ErrForm {
					t.Error(number, made, e)
				}
			}
		}
	}
	x := madeOf(tag.Context, 0)
	for range 1000 {
		x = madeOf(tag.Context, 1, x, x)
	}
	if f, e := filter.Read(x); !equal(f, filter.Filter{}) || e != api.ErrForm {
		t.Error(f, e)
	}
	// An error in one filter leaves nothing of those before it.
	x = madeOf(tag.Context, 0, modelPut(is("cn", "a")), modelPut(is("", "a")))
	if f, e := filter.Read(x); !equal(f, filter.Filter{}) || e != api.ErrForm {
		t.Error(f, e)
	}
}

// Many filters side by side, parts and bytes are too many, or as they are.
func TestLongLists(t *testing.T) {
	many := slices.Repeat([]filter.Filter{and()}, 1<<18)
	if filter.Right(and(many...)) || filter.Text(or(many...)) != "" || !sameElement(filter.Put(and(many...)), ber.Element{}) {
		t.Error("filters")
	}
	if f, e := filter.Read(modelPut(and(many...))); !equal(f, filter.Filter{}) || e != api.ErrForm {
		t.Error(e)
	}
	if !filter.Same(and(many...), and(slices.Clone(many)...)) || filter.Same(and(many...), and(many[1:]...)) {
		t.Error("Same")
	}
	f := sought("cn", "", "", slices.Repeat([]string{"ab"}, 1<<18)...)
	if back, e := filter.Read(filter.Put(f)); !equal(back, f) || e != api.OK || !filter.Right(f) {
		t.Error(e)
	}
	if text := filter.Text(f); text != "(cn=*"+strings.Repeat("ab*", 1<<18)+")" {
		t.Error(len(text))
	}
	f.Between[1<<17] = ""
	if filter.Right(f) || filter.Text(f) != "" {
		t.Error("empty part")
	}
	if _, e := filter.Read(modelPut(f)); e != api.ErrForm {
		t.Error(e)
	}
}

// share tells whether two strings have memory in common.
func share(a, b string) bool {
	from, to := uintptr(unsafe.Pointer(unsafe.StringData(a))), uintptr(unsafe.Pointer(unsafe.StringData(b)))
	return a != "" && b != "" && from < to+uintptr(len(b)) && to < from+uintptr(len(a))
}

// texts returns all strings of a filter.
func texts(f filter.Filter) []string {
	l := append([]string{f.Type, f.Value, f.First, f.Last}, f.Between...)
	for _, kid := range f.Kids {
		l = append(l, texts(kid)...)
	}
	return l
}

// blocks returns the bytes of all elements in x, with their spare capacity.
func blocks(x ber.Element) []string {
	l := []string{unsafe.String(unsafe.SliceData(x.Bytes), cap(x.Bytes))}
	for _, kid := range x.Kids {
		l = append(l, blocks(kid)...)
	}
	return l
}

// wantOther holds that no string of a is in the memory of one of b.
func wantOther(t *testing.T, what string, a, b []string) {
	t.Helper()
	for _, s := range a {
		for _, other := range b {
			if share(s, other) {
				t.Errorf("%s: %q", what, s)
			}
		}
	}
}

// everything returns a filter with something in each field that it can have.
func everything() filter.Filter {
	return copied(and(is("cn", "abc"), or(present("description"), kind(filter.Least, "sn", "x"), kind(filter.Most, "1.2;a", "y")), not(kind(filter.Like, "uid", "z")), sought("cn", "first", "last", "between", "them")), false)
}

// Rule 4: results are new memory.
func TestResultsAreNew(t *testing.T) {
	f := everything()
	text, x := filter.Text(f), filter.Put(f)
	for _, f := range append([]filter.Filter{f}, f.Kids...) {
		wantOther(t, "Text", []string{filter.Text(f)}, texts(f))
		wantOther(t, "Put", blocks(filter.Put(f)), texts(f))
	}
	wantOther(t, "Put again", blocks(x), blocks(filter.Put(f)))
	parsed, e := filter.Parse(text)
	wantOther(t, "Parse", texts(parsed), []string{text})
	read, bad := filter.Read(x)
	wantOther(t, "Read", texts(read), blocks(x))
	if e != api.OK || bad != api.OK {
		t.Fatal(e, bad)
	}
	// No two lists of a result share memory: one does not grow into another, and none into an argument.
	for _, got := range []filter.Filter{parsed, read} {
		grow(got)
		if !equal(got, f) {
			t.Errorf("%#v", got)
		}
	}
	growElement(x)
	if !sameElement(x, modelPut(f)) || !equal(f, everything()) {
		t.Errorf("%#v", x)
	}
	scratch(x)
	if !equal(read, everything()) || !equal(f, everything()) {
		t.Errorf("%#v", read)
	}
}

// grow writes behind the end of each list of f.
func grow(f filter.Filter) {
	_ = append(f.Kids, filter.Filter{Kind: 77})
	_ = append(f.Between, "more")
	for _, kid := range f.Kids {
		grow(kid)
	}
}

// growElement writes behind the end of each list of x.
func growElement(x ber.Element) {
	_ = append(x.Kids, ber.Element{Bytes: []byte("more")})
	_ = append(x.Bytes, "more"...)
	for _, kid := range x.Kids {
		growElement(kid)
	}
}

// scratch changes each byte and each element within x.
func scratch(x ber.Element) {
	clear(x.Bytes[:cap(x.Bytes)])
	for _, kid := range x.Kids {
		scratch(kid)
	}
	clear(x.Kids[:cap(x.Kids)])
}

// Rules 4 and 8: arguments are left as they are, and what is behind their ends is neither read nor written.
func TestArgumentsStay(t *testing.T) {
	kids := []filter.Filter{is("cn", "a"), sought("cn", "f", "l", []string{"b", "c", "", "behind"}[:2]...), {Kind: 9}, {Kind: 10}}
	f := and(kids[:2]...)
	want := and(is("cn", "a"), sought("cn", "f", "l", "b", "c"))
	if !filter.Right(f) || !filter.Same(f, want) || filter.Text(f) != "(&(cn=a)(cn=f*b*c*l))" || !sameElement(filter.Put(f), modelPut(want)) {
		t.Errorf("%#v", f)
	}
	if kids[2].Kind != 9 || kids[3].Kind != 10 || !slices.Equal(kids[1].Between[:4], []string{"b", "c", "", "behind"}) || !equal(f, want) {
		t.Errorf("%#v", kids)
	}
	x := modelPut(want)
	room := append(slices.Clone(x.Kids), ber.Element{}, bytesOf(tag.Context, 7, "cn"))
	bytes := []byte("cnbehind")
	room[0] = ber.Element{Tag: tag.Tag{Class: tag.Context, Number: 7}, Bytes: bytes[:2]}
	x.Kids = room[:2]
	if got, e := filter.Read(x); !equal(got, and(present("cn"), want.Kids[1])) || e != api.OK {
		t.Errorf("%#v %d", got, e)
	}
	if string(bytes) != "cnbehind" || !sameElement(room[2], ber.Element{}) || !sameElement(room[3], bytesOf(tag.Context, 7, "cn")) {
		t.Errorf("%#v", room)
	}
}

// Rule 5: a result depends on the arguments alone.
func TestRepeatable(t *testing.T) {
	f := everything()
	for i := range 50 {
		if s := filter.Text(f); s != modelText(f) {
			t.Fatal(i, s)
		}
		wantParse(t, "(a;h;g;f;e;d;c;b="+strconv.Itoa(i)+")")
	}
}
