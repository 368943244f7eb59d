package dn_test

import (
	"slices"
	"strings"
	"testing"
	"unsafe"

	"peerage/api"
	"peerage/dn"
	"peerage/schema"
	"peerage/value"
)

// one returns a name of one level.
func one(pairs ...api.Pair) dn.Name {
	return dn.Name{pairs}
}

// pair returns a pair.
func pair(kind, v string) api.Pair {
	return api.Pair{Type: kind, Value: v}
}

// same tells whether two names are equal, also where one is nil and the other is empty.
func same(a, b dn.Name) bool {
	return slices.EqualFunc(a, b, func(l, m dn.Level) bool { return slices.Equal(l, m) })
}

// wantName holds Parse of s against n.
func wantName(t *testing.T, s string, n dn.Name) {
	t.Helper()
	if got, e := dn.Parse(s); !same(got, n) || e != api.OK {
		t.Errorf("Parse of %q: %q %d instead of %q", s, got, e, n)
	}
	wantParse(t, s)
}

// wantNoName holds that Parse and Of return e for s, and nothing else.
func wantNoName(t *testing.T, s string, e api.Errno) {
	t.Helper()
	if n, got := dn.Parse(s); len(n) != 0 || got != e {
		t.Errorf("Parse of %q: %q %d instead of %d", s, n, got, e)
	}
	if k, got := dn.Of(s); k != "" || got != e {
		t.Errorf("Of %q: %q %d instead of %d", s, k, got, e)
	}
	wantParse(t, s)
}

// wantParse holds Parse, Of and Key of s against the model, and parses back the text of the name (P11.6). It tells whether s has a key.
func wantParse(t *testing.T, s string) bool {
	t.Helper()
	want, wantError := modelParse(s)
	n, e := dn.Parse(s)
	if !same(n, want) || e != wantError {
		t.Errorf("Parse of %q: %q %d instead of %q %d", s, n, e, want, wantError)
	}
	wantKey, wantError := modelOf(s)
	k, e := dn.Of(s)
	if k != wantKey || e != wantError {
		t.Errorf("Of %q: %q %d instead of %q %d", s, k, e, wantKey, wantError)
	}
	wantNormal(t, n)
	wantText(t, n)
	for syntax := range 11 {
		wantKey, wantOk := modelKey(syntax, s)
		if k, ok := dn.Key(syntax, s); k != wantKey || ok != wantOk {
			t.Errorf("Key of %d and %q: %q %v instead of %q %v", syntax, s, k, ok, wantKey, wantOk)
		}
	}
	return wantError == api.OK
}

// wantText holds Text of a name that was parsed against the model, and parses it back (P11.6).
func wantText(t *testing.T, n dn.Name) {
	t.Helper()
	text := dn.Text(n)
	if want := modelText(n); text != want {
		t.Errorf("Text of %q: %q instead of %q", n, text, want)
	}
	if len(text) > maxBytes {
		return
	}
	if back, e := dn.Parse(text); !same(back, n) || e != api.OK {
		t.Errorf("Parse of Text of %q: %q %d", n, back, e)
	}
}

// wantNormal holds Normal of n against the model, and the functions of keys where there is one.
func wantNormal(t *testing.T, n dn.Name) {
	t.Helper()
	want, wantError := modelNormal(n)
	k, e := dn.Normal(n)
	if k != want || e != wantError {
		t.Errorf("Normal of %q: %q %d instead of %q %d", n, k, e, want, wantError)
	}
	if wantError == api.OK {
		wantKeys(t, n)
	}
}

// wantKeys holds what P11.4 and P11.6 state of the key of n, which has one.
func wantKeys(t *testing.T, n dn.Name) {
	t.Helper()
	keys, _ := modelKeys(n)
	levels, _ := modelLevels(n)
	k := keys[0]
	if back, e := dn.Of(k); back != k || e != api.OK {
		t.Errorf("Of the key %q: %q %d", k, back, e)
	}
	for i, l := range levels {
		level := modelText(dn.Name{l})
		if got, above := dn.Split(keys[i]); got != level || above != keys[i+1] {
			t.Errorf("Split of %q: %q %q instead of %q %q", keys[i], got, above, level, keys[i+1])
		}
		if got := dn.Join(level, keys[i+1]); got != keys[i] {
			t.Errorf("Join of %q and %q: %q", level, keys[i+1], got)
		}
		if got := dn.Pairs(level); !slices.Equal(got, l) {
			t.Errorf("Pairs of %q: %q instead of %q", level, got, l)
		}
	}
	for i, a := range keys {
		if got := dn.Depth(a); got != len(n)-i {
			t.Errorf("Depth of %q: %d", a, got)
		}
		for j, b := range keys {
			if got := dn.Under(a, b); got != (j >= i) {
				t.Errorf("Under of %q and %q: %v", a, b, got)
			}
		}
	}
}

// P11.1, P11.3 and P11.5: the limits.
func TestLimits(t *testing.T) {
	if api.MaxRdns != maxRdns || api.MaxPairs != maxPairs || api.MaxText != maxText {
		t.Error(api.MaxRdns, api.MaxPairs, api.MaxText)
	}
}

// P11.1.
func TestParse(t *testing.T) {
	for _, s := range []string{"", " ", "    ", strings.Repeat(" ", maxBytes)} {
		wantName(t, s, nil)
	}
	wantName(t, "cn=a", one(pair("cn", "a")))
	wantName(t, "CN = Foo  Bar , o=X", dn.Name{{pair("CN", "Foo  Bar")}, {pair("o", "X")}})
	wantName(t, "  cn  =  a  ,  o  =  b  ", dn.Name{{pair("cn", "a")}, {pair("o", "b")}})
	wantName(t, "sn=b+cn=a,dc=x;dc=y", dn.Name{{pair("sn", "b"), pair("cn", "a")}, {pair("dc", "x")}, {pair("dc", "y")}})
	wantName(t, "a=1 + b=2 ; c=3", dn.Name{{pair("a", "1"), pair("b", "2")}, {pair("c", "3")}})
	// Types are kept as they are written, and need not be attributes.
	wantName(t, "X-y1=a,2.5.4.3=b,0.39.0=c", dn.Name{{pair("X-y1", "a")}, {pair("2.5.4.3", "b")}, {pair("0.39.0", "c")}})
	wantName(t, "cn=a+cn=a", one(pair("cn", "a"), pair("cn", "a")))
	wantName(t, strings.Repeat("a", 64)+"=", one(pair(strings.Repeat("a", 64), "")))
	// Values are those that escape.Read reads.
	wantName(t, "cn=", one(pair("cn", "")))
	wantName(t, "cn= ", one(pair("cn", "")))
	wantName(t, "cn=,o= ;ou=+sn=", dn.Name{{pair("cn", "")}, {pair("o", "")}, {pair("ou", ""), pair("sn", "")}})
	wantName(t, "cn=a\\,b\\;c\\+d\\=e,o=x", dn.Name{{pair("cn", "a,b;c+d=e")}, {pair("o", "x")}})
	wantName(t, "cn=a\\2co\\3dx\\\\,o=y\\ ", dn.Name{{pair("cn", "a,o=x\\")}, {pair("o", "y ")}})
	wantName(t, "cn=#6162,o=#2C+ou= #5c ", dn.Name{{pair("cn", "ab")}, {pair("o", ","), pair("ou", "\\")}})
	wantName(t, "cn=\\#61,o=a#", dn.Name{{pair("cn", "#61")}, {pair("o", "a#")}})
	wantName(t, "cn=\u00e9\xff\x00\n\t,o=\\c3\\a9", dn.Name{{pair("cn", "\u00e9\xff\x00\n\t")}, {pair("o", "\u00e9")}})
	wantName(t, "cn=\\\\", one(pair("cn", "\\")))
}

// P11.1: strings of another form.
func TestParseInvalid(t *testing.T) {
	for _, s := range []string{
		// A pair, or a part of it, is missing.
		",", ";", "+", "=", "cn", " cn ", "=a", " =a", "cn=a,", "cn=a;", "cn=a+", "cn=a, ", "cn=a,,o=b", "cn=a;;o=b", "cn=a++o=b", "cn=a,+o=b", "cn=a+,o=b", ",cn=a", "+cn=a", "cn=a,o", "cn=a,=b", "cn=a+o,ou=b", "cn,o=b", "cn+o=b", "cn;o=b",
		// What stands before = is no type.
		"1=a", "-a=b", "1a=b", "a_b=c", "a.b=c", "cn;lang-de=a", "c n=a", "cn\t=a", "\tcn=a", "cn=a,\no=b", "\u00a0cn=a", "c\u00f6=a", "1.=a", ".1=a", "1.40=a", "3.1=a", "01.2=a", "2.05=a", "OID.2.5.4.3=a", "\\63n=a", "\"cn\"=a", "cn\x00=a", "cn\\==a", "#=a", "1.2.=a", "2.10000000000=a", strings.Repeat("a", 65) + "=b", "2" + strings.Repeat(".1", 16) + "=a",
		// The value is none.
		"cn=a<", "cn=a>b", "cn=\"a\"", "cn=a=b", "cn==", "cn=a\\", "cn=\\", "cn=\\x", "cn=\\4", "cn=\\4g", "cn=#", "cn=#6", "cn=#,o=a", "cn=#zz", "cn=#61 62", "cn=a,o=b\\", "cn=a,o=#6", "cn=a+o=<", "o=x,cn=a\"", "cn=\\\\\\",
		"\x00", "\t", "\xff", "\u00a0", " \t ", " \x00",
	} {
		wantNoName(t, s, api.ErrForm)
	}
}

// levels returns n levels with commas between them.
func levels(n int) string {
	return strings.Repeat("o=a,", n-1) + "o=a"
}

// P11.1: the limits of names as they are given.
func TestParseLimits(t *testing.T) {
	long := strings.Repeat("x", maxBytes-3)
	wantName(t, "cn="+long, one(pair("cn", long)))
	wantName(t, "cn=a"+strings.Repeat(" ", maxBytes-4), one(pair("cn", "a")))
	for _, s := range []string{"cn=" + long + "x", strings.Repeat(" ", maxBytes+1), strings.Repeat(",", maxBytes+1), "cn=a" + strings.Repeat(" ", maxBytes-3), strings.Repeat("o=a,", 300), strings.Repeat("\xff", 1<<20)} {
		wantNoName(t, s, api.ErrBig)
	}
	wantNoName(t, strings.Repeat(",", maxBytes), api.ErrForm)
	if n, e := dn.Parse(levels(maxRdns)); len(n) != maxRdns || e != api.OK {
		t.Error(n, e)
	}
	most := "cn=a+cn=b+cn=c+cn=d"
	if n, e := dn.Parse("o=x," + most + ",o=y," + most); len(n) != 4 || len(n[1]) != maxPairs || e != api.OK {
		t.Error(n, e)
	}
	for _, s := range []string{levels(maxRdns + 1), levels(200), most + "+cn=e", "o=x," + most + "+cn=e,o=y", "o=x,o=y," + most + "+cn=e", strings.Repeat("o=a;", maxRdns) + "o=a", strings.Repeat("o=a+", 200) + "o=a"} {
		wantNoName(t, s, api.ErrBig)
		// The form comes first.
		wantNoName(t, s+",", api.ErrForm)
		wantNoName(t, s+"<", api.ErrForm)
		wantNoName(t, "1"+s, api.ErrForm)
	}
}

// P11.2: also for what is no name that is parsed.
func TestText(t *testing.T) {
	for want, n := range map[string]dn.Name{
		"":                           nil,
		"cn=a":                       one(pair("cn", "a")),
		"CN=Foo  Bar,o=X":            {{pair("CN", "Foo  Bar")}, {pair("o", "X")}},
		"sn=b+cn=a,dc=x,dc=y":        {{pair("sn", "b"), pair("cn", "a")}, {pair("dc", "x")}, {pair("dc", "y")}},
		"cn=a\\,b\\+c\\=\\\\,o=\\ x": {{pair("cn", "a,b+c=\\")}, {pair("o", " x")}},
		"cn=\\#61+x=\\00\\ff":        one(pair("cn", "#61"), pair("x", "\x00\xff")),
		"cn=":                        one(pair("cn", "")),
		"=":                          one(pair("", "")),
		" ,=a":                       one(pair(" ,", "a")),
		",cn=a,":                     {{}, {pair("cn", "a")}, nil},
		"a=1+a=2+a=3+a=4+a=5":        one(pair("a", "1"), pair("a", "2"), pair("a", "3"), pair("a", "4"), pair("a", "5")),
	} {
		if got := dn.Text(n); got != want {
			t.Errorf("%q: %q instead of %q", n, got, want)
		}
	}
	if got := dn.Text(slices.Repeat(one(pair("o", "a")), 5000)); got != levels(5000) {
		t.Error(len(got))
	}
}

// P11.3: keys.
func TestOf(t *testing.T) {
	for s, want := range map[string]string{
		"":                                "",
		"   ":                             "",
		"CN = Foo  Bar , o=X":             "cn=foo bar,o=x",
		"sn=b+cn=a,dc=x;dc=y":             "cn=a+sn=b,dc=x,dc=y",
		"commonName=A,organizationName=B": "cn=a,o=b",
		"2.5.4.3=A;2.5.4.10=B":            "cn=a,o=b",
		"cn=#6162":                        "cn=ab",
		"cn=a\\,b,o=x":                    "cn=a\\,b,o=x",
		"cn=a\\2cb,o=\\41":                "cn=a\\,b,o=a",
		"cn=\\ \\ a\\ ":                   "cn=a",
		"cn=\u00c9\\C3\\89":               "cn=\u00e9\u00e9",
		"GIVENNAME=A":                     "givenname=a",
		"o=z+c=y+cn=x+ou=w":               "c=y+cn=x+o=z+ou=w",
		"serialNumber=B+sn=A":             "serialnumber=B+sn=a",
		// The values' keys are those of their syntaxes.
		"serialNumber= A  b ":         "serialnumber=A b",
		"employeeNumber=-007":         "employeenumber=-7",
		"enabled=TRUE":                "enabled=TRUE",
		"telephoneNumber=12 34":       "telephonenumber=1234",
		"weight=8000000000000000":     "weight=0000000000000000",
		"objectClass=2.5.6.6":         "objectclass=person",
		"userPassword=\\ A\\ ,o=x":    "userpassword=\\ A\\ ,o=x",
		"userPassword=":               "userpassword=",
		"userPassword= , o=x":         "userpassword=,o=x",
		"userPassword=\\00\\c3+cn=a":  "cn=a+userpassword=\\00\\c3",
		"userPassword=#23232B,c=\\22": "userpassword=\\##\\+,c=\\\"",
		// A pair may occur again in another level.
		"cn=a,cn=a,cn=b": "cn=a,cn=a,cn=b",
	} {
		if k, e := dn.Of(s); k != want || e != api.OK {
			t.Errorf("%q: %q %d instead of %q", s, k, e, want)
		}
		if !wantParse(t, s) {
			t.Errorf("%q", s)
		}
	}
}

// P11.3: errors of names that are parsed.
func TestOfErrors(t *testing.T) {
	for s, want := range map[string]api.Errno{
		"x=a": api.ErrNone, "person=a": api.ErrNone, "cn=a,x=b": api.ErrNone, "x=,cn=": api.ErrNone, "2.5.4.99=a": api.ErrNone, "2.5.6.6=a": api.ErrNone,
		"cn=": api.ErrArg, "cn=\\ ": api.ErrArg, "cn=\\ff": api.ErrArg, "cn=,x=a": api.ErrArg, "c=a,o=": api.ErrArg,
		"enabled=true": api.ErrArg, "employeeNumber=x": api.ErrArg, "weight=1": api.ErrArg, "telephoneNumber=+1": api.ErrForm, "telephoneNumber=\\+1": api.ErrArg, "objectClass=a_b": api.ErrArg,
		// No value of the syntax Name is valid within a name.
		"member=o\\=x": api.ErrArg, "owner=": api.ErrArg, "seeAlso=cn\\=a\\,o\\=x,o=y": api.ErrArg,
		// The same attribute occurs twice, under any of its names.
		"cn=a+CN=b": api.ErrArg, "cn=a+cn=a": api.ErrArg, "cn=a+commonName=b": api.ErrArg, "cn=a+2.5.4.3=b": api.ErrArg, "o=x,cn=a+sn=b+cn=c,o=y": api.ErrArg, "cn=a+sn=b+surname=b": api.ErrArg,
		// Pair by pair.
		"cn=a+cn=b,x=c": api.ErrArg, "cn=a+x=b+cn=c": api.ErrNone, "x=c,cn=a+cn=b": api.ErrNone, "cn=+x=a": api.ErrArg, "x=a+cn=": api.ErrNone,
	} {
		if k, e := dn.Of(s); k != "" || e != want {
			t.Errorf("%q: %q %d instead of %d", s, k, e, want)
		}
		if wantParse(t, s) {
			t.Errorf("%q", s)
		}
	}
}

// P11.3: names that Parse does not return.
func TestNormal(t *testing.T) {
	none, bad, good := pair("x", "a"), pair("cn", ""), pair("o", "a")
	empty, many := dn.Level{}, dn.Level(slices.Repeat([]api.Pair{none}, maxPairs+1))
	for _, x := range []struct {
		n    dn.Name
		want api.Errno
	}{
		{nil, api.OK}, {dn.Name{}, api.OK}, {one(good), api.OK},
		{one(), api.ErrForm}, {dn.Name{{good}, nil}, api.ErrForm}, {dn.Name{empty, {good}}, api.ErrForm},
		{dn.Name{{none}, empty}, api.ErrForm}, {dn.Name{{bad}, empty, {none}}, api.ErrForm},
		{dn.Name{many}, api.ErrBig}, {dn.Name{empty, many}, api.ErrBig}, {dn.Name{{none}, {bad}, many}, api.ErrBig},
		{slices.Repeat(dn.Name{{good}}, maxRdns), api.OK}, {slices.Repeat(dn.Name{{good}}, maxRdns+1), api.ErrBig}, {slices.Repeat(dn.Name{empty}, maxRdns+1), api.ErrBig}, {slices.Repeat(dn.Name{{none}}, maxRdns+1), api.ErrBig}, {slices.Repeat(dn.Name{empty}, maxRdns), api.ErrForm}, {make(dn.Name, 1<<20), api.ErrBig},
		{dn.Name{slices.Repeat(dn.Level{good}, 1<<20)}, api.ErrBig},
		{dn.Name{{pair("c", "a"), pair("cn", "b"), pair("sn", "c"), pair("o", "d")}}, api.OK},
		{one(none, bad), api.ErrNone}, {one(bad, none), api.ErrArg}, {dn.Name{{good, good}, {none}}, api.ErrArg}, {dn.Name{{none}, {good, good}}, api.ErrNone},
		{one(pair("", "a")), api.ErrNone}, {one(pair(" cn", "a")), api.ErrNone}, {one(pair("cn ", "a")), api.ErrNone}, {one(pair("cn;lang-de", "a")), api.ErrNone}, {one(pair("cn=", "a")), api.ErrNone}, {one(pair(strings.Repeat("cn", 1<<20), "a")), api.ErrNone},
		{one(pair("cn", strings.Repeat("a", maxText))), api.OK}, {one(pair("cn", strings.Repeat("a", maxText+1))), api.ErrArg}, {one(pair("cn", "a"+strings.Repeat(" ", maxText))), api.ErrArg}, {one(pair("userPassword", strings.Repeat("\xff", 1<<20))), api.ErrArg},
	} {
		k, e := dn.Normal(x.n)
		if e != x.want || e != api.OK && k != "" {
			t.Errorf("%d levels: %q %d instead of %d", len(x.n), k, e, x.want)
		}
		wantNormal(t, x.n)
	}
	if k, e := dn.Normal(dn.Name{{pair("surname", "B  c"), pair("2.5.4.3", "A,")}, {good}}); k != "cn=a\\,+sn=b c,o=a" || e != api.OK {
		t.Errorf("%q %d", k, e)
	}
}

// P11.3: the limit of keys.
func TestNormalLimit(t *testing.T) {
	// Each byte takes three in the key.
	octets := func(size int) api.Pair { return pair("userPassword", strings.Repeat("\xff", size)) }
	word := func(size int) api.Pair { return pair("cn", strings.Repeat("a", size)) }
	for _, x := range []struct {
		n    dn.Name
		size int
	}{
		{one(octets(337)), 1024}, {one(octets(338)), 0},
		{dn.Name{{octets(300)}, {word(107)}}, 1024}, {dn.Name{{octets(300)}, {word(108)}}, 0},
		{dn.Name{{word(512)}, {word(505)}}, 1024}, {dn.Name{{word(512)}, {word(506)}}, 0}, {dn.Name{{word(512)}, {word(512)}, {word(512)}}, 0},
	} {
		k, e := dn.Normal(x.n)
		if len(k) != x.size || (e == api.OK) != (x.size > 0) || e != api.OK && e != api.ErrBig {
			t.Errorf("%q: %d bytes, %d instead of %d", x.n, len(k), e, x.size)
		}
		wantNormal(t, x.n)
	}
	// The size is looked at after all pairs.
	big := dn.Level{octets(400)}
	for e, last := range map[api.Errno]api.Pair{api.ErrNone: pair("x", "a"), api.ErrArg: pair("cn", ""), api.ErrBig: pair("cn", "a")} {
		if k, got := dn.Normal(dn.Name{big, {last}}); k != "" || got != e {
			t.Errorf("%q %d instead of %d", k, got, e)
		}
	}
	// The text may be short and the key long, and the other way round.
	wantNoKey(t, "userPassword="+strings.Repeat("\xff", 338))
	s := "cn=" + strings.Repeat("\\61", 340)
	if k, e := dn.Of(s); k != "cn="+strings.Repeat("a", 340) || e != api.OK {
		t.Errorf("%q %d", k, e)
	}
}

// wantNoKey holds that s is a name, but that it has too long a key.
func wantNoKey(t *testing.T, s string) {
	t.Helper()
	if _, e := dn.Parse(s); e != api.OK {
		t.Errorf("%q: %d", s, e)
	}
	if k, e := dn.Of(s); k != "" || e != api.ErrBig {
		t.Errorf("%q: %q %d", s, k, e)
	}
}

// P11.4.
func TestSplitAndJoin(t *testing.T) {
	for k, want := range map[string][2]string{
		"":                         {"", ""},
		"o=x":                      {"o=x", ""},
		"cn=foo bar,o=x":           {"cn=foo bar", "o=x"},
		"cn=a\\,b,o=x":             {"cn=a\\,b", "o=x"},
		"cn=a\\\\,o=x":             {"cn=a\\\\", "o=x"},
		"cn=a\\\\\\,b,o=x":         {"cn=a\\\\\\,b", "o=x"},
		"cn=a\\,":                  {"cn=a\\,", ""},
		"cn=a+sn=b,dc=x,dc=y":      {"cn=a+sn=b", "dc=x,dc=y"},
		"userpassword=,o=x":        {"userpassword=", "o=x"},
		"userpassword=\\00\\2,o=x": {"userpassword=\\00\\2", "o=x"},
	} {
		level, above := dn.Split(k)
		if level != want[0] || above != want[1] {
			t.Errorf("%q: %q %q", k, level, above)
		}
		if back := dn.Join(level, above); back != k {
			t.Errorf("%q: %q", k, back)
		}
	}
	for want, x := range map[string][2]string{"": {"", ""}, "cn=a": {"cn=a", ""}, "cn=a,o=x": {"cn=a", "o=x"}, ",o=x": {"", "o=x"}} {
		if got := dn.Join(x[0], x[1]); got != want {
			t.Errorf("%q instead of %q", got, want)
		}
	}
}

// P11.4.
func TestUnder(t *testing.T) {
	for _, x := range []struct {
		k, base string
		want    bool
	}{
		{"", "", true}, {"o=x", "", true}, {"cn=a,o=x", "", true},
		{"o=x", "o=x", true}, {"cn=a,o=x", "o=x", true}, {"cn=b,cn=a,o=x", "o=x", true}, {"cn=b,cn=a,o=x", "cn=a,o=x", true}, {"cn=a,o=x", "cn=a,o=x", true}, {"cn=a+sn=b,o=x", "o=x", true}, {"cn=a\\,,o=x", "o=x", true}, {"cn=a\\\\,o=x", "o=x", true},
		{"", "o=x", false}, {"o=x", "cn=a,o=x", false}, {"o=x", "o=y", false}, {"cn=a,o=x", "cn=a", false}, {"cn=a,o=x", "cn=b,o=x", false}, {"cn=b,cn=a,o=x", "cn=b,o=x", false}, {"cn=a,o=x,o=y", "o=x", false}, {"cn=a,o=x", "o=y", false},
		// The one is the end of the other, but not from a level on.
		{"co=x", "o=x", false}, {"cn=a+o=x", "o=x", false}, {"cn=a,dco=x", "o=x", false}, {"cn=a\\,o\\=x", "o=x", false}, {"cn=o\\=x", "o=x", false}, {"cn=a,o=xx", "o=x", false}, {"cn=a,o=x", "n=a,o=x", false}, {"cn=a\\\\\\,o\\=x", "o=x", false},
	} {
		if got := dn.Under(x.k, x.base); got != x.want {
			t.Errorf("%q %q: %v", x.k, x.base, got)
		}
	}
}

// P11.4.
func TestDepth(t *testing.T) {
	for k, want := range map[string]int{"": 0, "o=x": 1, "cn=a,o=x": 2, "cn=a\\,b,o=x": 2, "cn=a\\\\,o=x": 2, "cn=a\\,o\\=x": 1, "cn=a+sn=b": 1, "userpassword=,userpassword=": 2, levels(maxRdns): maxRdns} {
		if got := dn.Depth(k); got != want {
			t.Errorf("%q: %d", k, got)
		}
	}
}

// P11.4.
func TestPairs(t *testing.T) {
	for level, want := range map[string][]api.Pair{
		"cn=a":                               {pair("cn", "a")},
		"cn=a+sn=b":                          {pair("cn", "a"), pair("sn", "b")},
		"cn=a\\+sn\\=b":                      {pair("cn", "a+sn=b")},
		"c=\\\\+cn=\\,\\++sn=\\#61":          {pair("c", "\\"), pair("cn", ",+"), pair("sn", "#61")},
		"userpassword=":                      {pair("userpassword", "")},
		"cn=a+userpassword=\\ \\00\\ff \\ ":  {pair("cn", "a"), pair("userpassword", " \x00\xff  ")},
		"c=\u00e9+o=\\\"+serialnumber=A+sn=": {pair("c", "\u00e9"), pair("o", "\""), pair("serialnumber", "A"), pair("sn", "")},
	} {
		if got := dn.Pairs(level); !slices.Equal(got, want) {
			t.Errorf("%q: %q instead of %q", level, got, want)
		}
	}
}

// P11.4: nothing is promised for strings that are no keys, but that the functions return.
func TestOtherStrings(t *testing.T) {
	l := append(short(4, "o", "=", ",", "+", "\\", " ", "\xff"), strings.Repeat(",", 1<<16), strings.Repeat("\\", 1<<16+1), strings.Repeat("o=a+", 1<<14), strings.Repeat("o=a,", 1<<14), strings.Repeat("\\,", 1<<16))
	for i, s := range l {
		for _, base := range []string{"", ",", "\\", "o=", s, l[len(l)-1-i]} {
			dn.Under(s, base)
			dn.Join(s, base)
		}
		dn.Split(s)
		dn.Depth(s)
		dn.Pairs(s)
	}
}

// P11.5.
func TestKey(t *testing.T) {
	for _, x := range []struct {
		v, want string
		ok      bool
	}{
		{"", "", true}, {"  ", "", true}, {"CN = Foo  Bar , o=X", "cn=foo bar,o=x", true}, {"o=x" + strings.Repeat(" ", maxText-3), "o=x", true},
		{"userPassword=" + strings.Repeat("\xff", maxText-13), "", false}, {"userPassword=" + strings.Repeat("\xff", 200), "userpassword=" + strings.Repeat("\\ff", 200), true}, {"cn=" + strings.Repeat("a", maxText-3), "cn=" + strings.Repeat("a", maxText-3), true},
		{"o=x" + strings.Repeat(" ", maxText-2), "", false}, {strings.Repeat(" ", maxText+1), "", false}, {"cn=" + strings.Repeat("a", maxText-2), "", false},
		{"a", "", false}, {"x=a", "", false}, {"cn=", "", false}, {"cn=a,", "", false}, {"member=o\\=x", "", false}, {levels(maxRdns + 1), "", false}, {levels(maxRdns), levels(maxRdns), true},
	} {
		if k, ok := dn.Key(schema.Name, x.v); k != x.want || ok != x.ok {
			t.Errorf("%q: %q %v", x.v, k, ok)
		}
	}
	for _, syntax := range []int{-1 << 63, -1, 0, 1, 2, 3, 4, 5, 7, 8, 9, 10, 1<<63 - 1} {
		for _, v := range []string{"", " A  b ", "-007", "TRUE", "1 2", "c000000000000000", "2.5.6.6", "o=x", "\xff", strings.Repeat("1", maxText), strings.Repeat("1", maxText+1)} {
			want, wantOk := value.Key(syntax, v)
			if k, ok := dn.Key(syntax, v); k != want || ok != wantOk {
				t.Errorf("%d %q: %q %v", syntax, v, k, ok)
			}
		}
	}
}

// short returns the strings of up to size of these pieces.
func short(size int, pieces ...string) []string {
	all, level := []string{""}, []string{""}
	for range size {
		var next []string
		for _, s := range level {
			for _, piece := range pieces {
				next = append(next, s+piece)
			}
		}
		all, level = append(all, next...), next
	}
	return all
}

// P11.1 to P11.6: all short strings of some pieces.
func TestEachShortString(t *testing.T) {
	count := 0
	for _, l := range [][]string{
		short(6, "o", "=", ",", "+", "\\", " "),
		short(5, "o=", "c=", "a", ",", ";", "+", "\\"),
		short(6, "sn=b", "cn=A", ",", "+", " "),
		short(4, "userPassword=", "\\", "#", "6", " ", ",", "+", "\xff"),
	} {
		for _, s := range l {
			if wantParse(t, s) {
				count++
			}
		}
		if t.Failed() {
			return
		}
	}
	if count < 800 {
		t.Error(count)
	}
}

// P11.1 and P11.3: each byte in each place.
func TestEachByte(t *testing.T) {
	for c := range 256 {
		c := string([]byte{byte(c)})
		for _, s := range []string{c, c + "o=x", "o" + c + "=x", "o=" + c, "o=x" + c, "o=x" + c + "c=y", "o=x,c=y" + c + "cn=z", "o=" + c + "x,c=y", "o=\\" + c, "o=\\4" + c, "o=#4" + c, " " + c, "userPassword=" + c + "x" + c, "userPassword=\\" + c + ",o=" + c} {
			wantParse(t, s)
		}
		n := one(pair("userPassword", c), pair("cn", "a"+c+"b"))
		wantNormal(t, n)
		wantNormal(t, one(pair("userPassword", c+c), pair("serialNumber", c+"\u00e9")))
	}
}

// Rule 4: arguments are not modified, nor what is behind them.
func TestArgumentsStay(t *testing.T) {
	room := make(dn.Level, 4)
	copy(room, dn.Level{pair("sn", "b"), pair("cn", "A"), pair("o", "z"), pair("c", "y")})
	names := make(dn.Name, 3)
	copy(names, dn.Name{room[:2], {pair("o", "X")}, {pair("x", "y")}})
	before := slices.Clone(room)
	n := names[:2]
	if k, e := dn.Normal(n); k != "cn=a+sn=b,o=x" || e != api.OK {
		t.Error(k, e)
	}
	if s := dn.Text(n); s != "sn=b+cn=A,o=X" {
		t.Error(s)
	}
	if !slices.Equal(room, before) || len(names[0]) != 2 || !slices.Equal(names[1], dn.Level{pair("o", "X")}) || !slices.Equal(names[2], dn.Level{pair("x", "y")}) {
		t.Error(room, names)
	}
}

// Rule 4: results are new memory.
func TestResultsAreNew(t *testing.T) {
	share := func(a, b string) bool {
		from, to := uintptr(unsafe.Pointer(unsafe.StringData(a))), uintptr(unsafe.Pointer(unsafe.StringData(b)))
		return a != "" && b != "" && from < to+uintptr(len(b)) && to < from+uintptr(len(a))
	}
	for _, s := range []string{"o=x", "cn=foo,o=x", "cn=a+sn=b,o=x"} {
		n, _ := dn.Parse(s)
		level, above := dn.Split(s)
		normal, _ := dn.Normal(n)
		of, _ := dn.Of(s)
		key, _ := dn.Key(schema.Name, s)
		got := []string{dn.Text(n), level, above, normal, of, key, dn.Join(s, ""), dn.Join(s, s)}
		for _, l := range append(n, dn.Pairs(s)) {
			for _, p := range l {
				got = append(got, p.Type, p.Value)
			}
		}
		for _, r := range got {
			if share(s, r) {
				t.Errorf("%q: %q", s, r)
			}
		}
	}
	// A list that has room is not that of the next one.
	n, _ := dn.Parse("c=a+cn=b+o=c,c=d+cn=e+o=f,c=g")
	for _, l := range n {
		_ = append(l, pair("x", "y"))
	}
	if s := dn.Text(n); s != "c=a+cn=b+o=c,c=d+cn=e+o=f,c=g" {
		t.Error(s)
	}
	a, b := dn.Pairs("cn=a"), dn.Pairs("cn=a")
	a[0] = pair("x", "y")
	if !slices.Equal(b, dn.Level{pair("cn", "a")}) {
		t.Error(b)
	}
}
