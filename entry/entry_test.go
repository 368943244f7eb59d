package entry_test

import (
	"bytes"
	"encoding/hex"
	"math"
	"slices"
	"strconv"
	"strings"
	"testing"
	"unsafe"

	"peerage/api"
	"peerage/attrs"
	"peerage/entry"
)

// attr returns an attribute.
func attr(name string, values ...string) attrs.Attr {
	return attrs.Attr{Name: name, Values: values}
}

// made returns the entry that New returns, which must accept it.
func made(t *testing.T, key, name string, version int, l ...attrs.Attr) entry.Entry {
	t.Helper()
	e, bad := entry.New(key, name, version, l)
	if bad != api.OK {
		t.Fatalf("New of %q %q %d %q: %d", key, name, version, l, bad)
	}
	return e
}

// wantNew holds New against the model, and what it returns against the other functions. It tells which error there is.
func wantNew(t *testing.T, key, name string, version int, l []attrs.Attr) api.Errno {
	t.Helper()
	want, wantError := modelNew(key, name, version, l)
	got, bad := entry.New(key, name, version, l)
	if !equal(got, want) || bad != wantError {
		t.Errorf("New of %#v %#v %d %#v: %#v %d instead of %#v %d", key, name, version, l, got, bad, want, wantError)
	}
	if bad == api.OK {
		wantPut(t, got)
	}
	return bad
}

// wantPut holds Put against the model, and Read against what it returns (P13.5). It tells which error there is.
func wantPut(t *testing.T, e entry.Entry) api.Errno {
	t.Helper()
	want, wantError := modelPut(e)
	got, bad := entry.Put(e)
	if !bytes.Equal(got, want) || bad != wantError {
		t.Errorf("Put of %#v: %x %d instead of %x %d", e, got, bad, want, wantError)
	}
	if bad != api.OK {
		return bad
	}
	if back, bad := entry.Read(got); !equal(back, e) || bad != api.OK {
		t.Errorf("Read of %x: %#v %d instead of %#v", got, back, bad, e)
	}
	if bad := entry.Check(e); bad != api.OK {
		t.Errorf("Check of %#v: %d", e, bad)
	}
	if got := entry.Members(e); !slices.Equal(got, modelMembers(e)) {
		t.Errorf("Members of %#v: %#v", e, got)
	}
	if !entry.Same(e, e) {
		t.Errorf("Same of %#v", e)
	}
	return api.OK
}

// wantRead holds that Read returns the entry whose encoding is b, or ErrForm if there is none. It tells whether there is one.
func wantRead(t *testing.T, b []byte) bool {
	t.Helper()
	e, bad := entry.Read(b)
	switch bad {
	case api.OK:
		if again, bad := modelPut(e); !bytes.Equal(again, b) || bad != api.OK {
			t.Errorf("Read of %x: %#v", b, e)
		}
		return true
	case api.ErrForm:
		if !equal(e, entry.Entry{}) {
			t.Errorf("Read of %x: %#v", b, e)
		}
	default:
		t.Errorf("Read of %x: %d", b, bad)
	}
	return false
}

// The limits are those that the tests name.
func TestLimits(t *testing.T) {
	if api.MaxMessage != maxMessage {
		t.Error(api.MaxMessage)
	}
}

// group returns attributes of a group with some names and members.
func group(names []string, members ...string) []attrs.Attr {
	l := []attrs.Attr{attr("objectClass", "group"), attr("cn", names...)}
	if len(members) > 0 {
		l = append(l, attr("member", members...))
	}
	return l
}

// only returns a list of one name.
func only(name string) []string {
	return []string{name}
}

// P13.1: each error, and which one of two is returned.
func TestCheck(t *testing.T) {
	classes := attr("objectClass", "person")
	for _, x := range []struct {
		want api.Errno
		key  string
		l    []attrs.Attr
	}{
		{api.OK, "cn=a", []attrs.Attr{attr("cn", "a"), classes, attr("sn", "b")}},
		{api.OK, "cn=a,o=x", []attrs.Attr{attr("cn", " A "), classes, attr("sn", "b")}},
		{api.OK, "sn=b,cn=c", []attrs.Attr{attr("cn", "a"), classes, attr("sn", "b")}},
		{api.OK, "cn=a+sn=b", []attrs.Attr{attr("cn", "A"), classes, attr("sn", "B")}},
		{api.OK, "cn=b", []attrs.Attr{attr("cn", "A", "B", "C"), classes, attr("sn", "x")}},
		{api.OK, `cn=a\,b,o=x`, []attrs.Attr{attr("cn", "a,B"), classes, attr("sn", "x")}},
		{api.OK, `cn=\#a\+b\=c\\`, []attrs.Attr{attr("cn", `#A+b=C\`), classes, attr("sn", "x")}},
		{api.OK, "description=d", []attrs.Attr{attr("cn", "a"), attr("description", "D"), classes, attr("sn", "x")}},
		{api.OK, "objectclass=person", []attrs.Attr{attr("cn", "a"), attr("objectClass", "2.5.6.6"), attr("sn", "x")}},
		{api.OK, "dc=a", []attrs.Attr{attr("dc", "A"), attr("o", "x"), attr("objectClass", "DCOBJECT", "organization")}},
		// schema.Check of the classes and the names returns an error, whichever.
		{api.ErrHeld, "cn=a", nil},
		{api.ErrHeld, "cn=a", []attrs.Attr{attr("cn", "a"), attr("sn", "b")}},
		{api.ErrHeld, "cn=a", []attrs.Attr{attr("cn", "a"), attr("objectClass", "x"), attr("sn", "b")}},
		{api.ErrHeld, "cn=a", []attrs.Attr{attr("cn", "a"), attr("objectClass", "top"), attr("sn", "b")}},
		{api.ErrHeld, "cn=a", []attrs.Attr{attr("cn", "a"), attr("objectClass", "login")}},
		{api.ErrHeld, "cn=a", []attrs.Attr{attr("cn", "a"), attr("objectClass", "group", "person"), attr("sn", "b")}},
		{api.ErrHeld, "cn=a", []attrs.Attr{attr("cn", "a"), classes}},
		{api.ErrHeld, "cn=a", []attrs.Attr{classes, attr("sn", "b")}},
		{api.ErrHeld, "cn=a", []attrs.Attr{attr("cn", "a"), classes, attr("ou", "c"), attr("sn", "b")}},
		{api.ErrHeld, "cn=a", []attrs.Attr{attr("cn", "a"), attr("dc", "c"), classes, attr("sn", "b")}},
		// A pair of the lowest level is missing.
		{api.ErrStale, "cn=b", []attrs.Attr{attr("cn", "a"), classes, attr("sn", "b")}},
		{api.ErrStale, "sn=a", []attrs.Attr{attr("cn", "a"), classes, attr("sn", "b")}},
		{api.ErrStale, "cn=a b", []attrs.Attr{attr("cn", "ab"), classes, attr("sn", "b")}},
		{api.ErrStale, "cn=a+sn=c", []attrs.Attr{attr("cn", "a"), classes, attr("sn", "b")}},
		{api.ErrStale, "cn=c+sn=b", []attrs.Attr{attr("cn", "a"), classes, attr("sn", "b")}},
		{api.ErrStale, "description=d", []attrs.Attr{attr("cn", "d"), classes, attr("sn", "d")}},
		{api.ErrStale, "ou=b,cn=a", []attrs.Attr{attr("cn", "a"), classes, attr("sn", "b")}},
		{api.ErrStale, `cn=a\,b`, []attrs.Attr{attr("cn", `a\,b`), classes, attr("sn", "b")}},
		{api.ErrStale, "objectclass=top", []attrs.Attr{attr("cn", "a"), classes, attr("sn", "b")}},
		// Both.
		{api.ErrHeld, "cn=b", []attrs.Attr{attr("cn", "a"), classes}},
		{api.ErrHeld, "cn=b", nil},
	} {
		e := entry.Entry{Key: x.key, Name: x.key, Attrs: x.l}
		if l, bad := attrs.Make(x.l); bad != api.OK || !equalLists(l, x.l) {
			t.Errorf("%q is not normalized", x.l)
		}
		if got := entry.Check(e); got != x.want || got != modelCheck(e) {
			t.Errorf("Check of %#v: %d instead of %d", e, got, x.want)
		}
		if bad := wantNew(t, x.key, x.key, 0, x.l); bad != x.want {
			t.Errorf("New of %#v: %d instead of %d", e, bad, x.want)
		}
	}
}

// P13.1: neither the name nor the version counts.
func TestCheckKeyAlone(t *testing.T) {
	e := entry.Entry{Key: "o=x", Name: "no name", Version: -1, Attrs: []attrs.Attr{attr("o", "x"), attr("objectClass", "organization")}}
	if bad := entry.Check(e); bad != api.OK {
		t.Error(bad)
	}
	e.Key = "o=y"
	if bad := entry.Check(e); bad != api.ErrStale {
		t.Error(bad)
	}
}

// P13.2: what New returns.
func TestNew(t *testing.T) {
	for _, x := range []struct {
		key, name string
		version   int
		l, want   []attrs.Attr
	}{
		{"o=x", "o=x", 0, []attrs.Attr{attr("o", "x"), attr("objectClass", "organization")}, []attrs.Attr{attr("o", "x"), attr("objectClass", "organization")}},
		{"o=x", " O = X ", 1, []attrs.Attr{attr("2.5.4.0", "ORGANIZATION"), attr("organizationName", "y", "X")}, []attrs.Attr{attr("o", "X", "y"), attr("objectClass", "ORGANIZATION")}},
		{"cn=foo bar,o=x", "CN=Foo  Bar;o=X", math.MaxInt, group(only("foo bar"), "o=b", "CN=Z,o=a"), []attrs.Attr{attr("cn", "foo bar"), attr("member", "CN=Z,o=a", "o=b"), attr("objectClass", "group")}},
		{"cn=a+sn=b", "surname=B+cn=A", 7, []attrs.Attr{attr("SN", "b"), attr("CN", "a"), attr("objectClass", "top", "person")}, []attrs.Attr{attr("cn", "a"), attr("objectClass", "person", "top"), attr("sn", "b")}},
	} {
		want := entry.Entry{Key: x.key, Name: x.name, Version: x.version, Attrs: x.want}
		if got, bad := entry.New(x.key, x.name, x.version, x.l); !equal(got, want) || bad != api.OK {
			t.Errorf("New of %#v: %#v %d", x.name, got, bad)
		}
		wantNew(t, x.key, x.name, x.version, x.l)
	}
}

// P13.2: each error, and which one of two is returned.
func TestNewErrors(t *testing.T) {
	good := group(only("a"))
	many := make([]string, 33)
	for i := range many {
		many[i] = strconv.Itoa(i)
	}
	long := strings.Repeat("a", 512)
	for _, x := range []struct {
		want      api.Errno
		key, name string
		version   int
		l         []attrs.Attr
	}{
		// Errors of Make, which come first.
		{api.ErrNone, "cn=a", "cn=a", 0, append(slices.Clone(good), attr("x", "y"))},
		{api.ErrThere, "cn=a", "cn=a", 0, append(slices.Clone(good), attr("CN", "b"))},
		{api.ErrForm, "cn=a", "cn=a", 0, append(slices.Clone(good), attr("description"))},
		{api.ErrArg, "cn=a", "cn=a", 0, append(slices.Clone(good), attr("description", ""))},
		{api.ErrThere, "cn=a", "cn=a", 0, group([]string{"a", "A"})},
		{api.ErrState, "cn=a", "cn=a", 0, append(slices.Clone(good), attr("dc", "a", "b"))},
		{api.ErrBig, "cn=a", "cn=a", 0, append(slices.Clone(good), attr("description", many...))},
		{api.ErrNone, "", "x", -1, []attrs.Attr{attr("x")}},
		{api.ErrThere, "cn=b", "cn=a", 0, group([]string{"a", "A"})},
		{api.ErrArg, "cn=b", "cn=a", 0, group(only(""))},
		{api.ErrState, "cn=a", "cn=a", -1, []attrs.Attr{attr("dc", "a", "b")}},
		{api.ErrBig, "cn=a", "cn=b", -1, group(many)},
		// Names that are none, and keys of others.
		{api.ErrForm, "cn=a", "cn", 0, good},
		{api.ErrForm, "cn=a", "x=a", 0, good},
		{api.ErrForm, "x=a", "x=a", 0, good},
		{api.ErrForm, "cn=a", "cn=", 0, good},
		{api.ErrForm, "cn=a", "cn=a,", 0, good},
		{api.ErrForm, "cn=a", "cn=a+cn=b", 0, good},
		{api.ErrForm, "cn=a", "cn=" + strings.Repeat("a", 1100), 0, good},
		{api.ErrForm, "", "cn", 0, good},
		{api.ErrForm, "cn=b", "cn=a", 0, good},
		{api.ErrForm, "CN=a", "CN=a", 0, good},
		{api.ErrForm, "cn=A", "cn=A", 0, good},
		{api.ErrForm, "cn=a ", "cn=a", 0, good},
		{api.ErrForm, "cn=a", "", 0, good},
		{api.ErrForm, "", "cn=a", 0, good},
		{api.ErrForm, "", "", 0, good},
		{api.ErrForm, "", "  ", 0, good},
		{api.ErrForm, "cn=b", "cn=a", -1, nil},
		{api.ErrForm, "", "", -1, nil},
		{api.ErrForm, "sn=b+cn=a", "sn=b+cn=a", 0, []attrs.Attr{attr("cn", "a"), attr("sn", "b"), attr("objectClass", "person")}},
		// Versions.
		{api.ErrArg, "cn=a", "cn=a", -1, good},
		{api.ErrArg, "cn=a", "cn=a", math.MinInt, good},
		{api.ErrArg, "cn=a", "cn=a", -1, nil},
		{api.ErrArg, "cn=b", "cn=b", -1, good},
		// Errors of Check.
		{api.ErrHeld, "cn=a", "cn=a", 0, nil},
		{api.ErrHeld, "cn=a", "cn=a", 0, good[:1]},
		{api.ErrHeld, "cn=b", "cn=b", 0, append(slices.Clone(good), attr("sn", "b"))},
		{api.ErrStale, "cn=b", "cn=b", 0, good},
		{api.ErrStale, "cn=a+description=b", "cn=a+description=b", 0, good},
		// Errors of Check come before the size.
		{api.ErrHeld, "cn=a", "cn=a", 0, append(huge(), attr("uid", long))},
		{api.ErrStale, "cn=b", "cn=b", 0, huge()},
		{api.ErrArg, "cn=a", "cn=a", -1, huge()},
		{api.ErrBig, "cn=a", "cn=a", 0, huge()},
	} {
		got, bad := entry.New(x.key, x.name, x.version, x.l)
		if !equal(got, entry.Entry{}) || bad != x.want {
			t.Errorf("New of %#v %#v %d %#v: %#v %d instead of %d", x.key, x.name, x.version, x.l, got, bad, x.want)
		}
		wantNew(t, x.key, x.name, x.version, x.l)
	}
}

// values returns n values of size bytes with different keys.
func values(n, size int) []string {
	var l []string
	for i := range n {
		l = append(l, string(rune('A'+i/26))+string(rune('a'+i%26))+strings.Repeat("x", size-2))
	}
	return l
}

// huge returns the attributes of a group that is too big, although each attribute is not.
func huge() []attrs.Attr {
	return append(group(only("a")), attr("description", values(32, 512)...))
}

// P13.2, P13.3: the most bytes that an entry may have, and one more.
func TestMostBytes(t *testing.T) {
	accepted := 0
	for n := 200; n <= 512; n++ {
		l := append(group(only("a")), attr("description", append(values(31, 512), "b"+strings.Repeat("y", n-1))...))
		m, bad := attrs.Make(l)
		if bad != api.OK {
			t.Fatal(bad)
		}
		e := entry.Entry{Key: "cn=a", Name: "cn=a", Attrs: m}
		want := api.OK
		if len(modelBytes(e)) > maxMessage {
			want = api.ErrBig
		} else {
			accepted++
		}
		if bad := wantNew(t, "cn=a", "cn=a", 0, l); bad != want {
			t.Errorf("New of %d bytes: %d", len(modelBytes(e)), bad)
		}
		if bad := wantPut(t, e); bad != want {
			t.Errorf("Put of %d bytes: %d", len(modelBytes(e)), bad)
		}
		if got := wantRead(t, modelBytes(e)); got != (want == api.OK) {
			t.Errorf("Read of %d bytes: %v", len(modelBytes(e)), got)
		}
	}
	if accepted == 0 || accepted == 313 {
		t.Error(accepted)
	}
}

// P13.2, P13.3: each part of the entry adds its bytes to those that it may have.
func TestMostBytesOfParts(t *testing.T) {
	// All that is not spare has so many bytes that some spare is accepted, and some is not.
	for _, x := range []struct {
		name  string
		parts func(spare int) (name string, version int, l []attrs.Attr)
	}{
		{"name", func(spare int) (string, int, []attrs.Attr) {
			return strings.Repeat(" ", spare) + "cn=a", 0, append(group(only("a")), attr("description", values(31, 511)...))
		}},
		{"member", func(spare int) (string, int, []attrs.Attr) {
			return "cn=a", 0, append(group(only("a"), "o="+strings.Repeat("m", spare)), attr("description", values(31, 511)...))
		}},
	} {
		last := api.OK
		seen := map[api.Errno]int{}
		for spare := 1; spare < 500; spare += 5 {
			name, version, l := x.parts(spare)
			bad := wantNew(t, "cn=a", name, version, l)
			if last == api.ErrBig && bad == api.OK {
				t.Errorf("%s: %d", x.name, spare)
			}
			last = bad
			seen[bad]++
		}
		if len(seen) != 2 || seen[api.OK] == 0 || seen[api.ErrBig] == 0 {
			t.Errorf("%s: %v", x.name, seen)
		}
	}
}

// P13.3: the bytes of an entry.
func TestPut(t *testing.T) {
	for _, x := range []struct {
		e    entry.Entry
		want string
	}{
		{made(t, "o=x", "O=X", 0, attr("o", "X"), attr("objectClass", "organization")),
			"3038 0403 6f3d78 0403 4f3d58 0201 00 3029 3008 0401 6f 3103 0401 58 301d 040b 6f626a656374436c617373 310e 040c 6f7267616e697a6174696f6e"},
		{made(t, "cn=a,o=x", "cn=a,o=x", 300, group([]string{"b", "A"}, "o=x")...),
			"3051 0408 636e3d612c6f3d78 0408 636e3d612c6f3d78 0202 012c 3037 300c 0402 636e 3106 0401 41 0401 62 300f 0406 6d656d626572 3105 0403 6f3d78 3016 040b 6f626a656374436c617373 3107 0405 67726f7570"},
	} {
		want, err := hex.DecodeString(strings.ReplaceAll(x.want, " ", ""))
		if err != nil {
			t.Fatal(err)
		}
		if got, bad := entry.Put(x.e); !bytes.Equal(got, want) || bad != api.OK {
			t.Errorf("Put of %#v: %x %d instead of %x", x.e, got, bad, want)
		}
		if got, bad := entry.Read(want); !equal(got, x.e) || bad != api.OK {
			t.Errorf("Read of %x: %#v %d", want, got, bad)
		}
		wantPut(t, x.e)
	}
}

// P13.3: versions of each number of bytes.
func TestPutVersions(t *testing.T) {
	e := made(t, "cn=a", "cn=a", 0, group(only("a"))...)
	for shift := range 63 {
		for d := -1; d <= 1; d++ {
			e.Version = 1<<shift + d
			if bad := wantPut(t, e); bad != api.OK {
				t.Errorf("%d: %d", e.Version, bad)
			}
		}
	}
	for _, n := range []int{-1, -128, -129, math.MinInt} {
		e.Version = n
		if bad := wantPut(t, e); bad != api.ErrArg {
			t.Errorf("%d: %d", n, bad)
		}
	}
	e.Version = math.MaxInt
	if bad := wantPut(t, e); bad != api.OK {
		t.Error(bad)
	}
}

// P13.3: entries that Put does not accept.
func TestPutErrors(t *testing.T) {
	list := func(l ...attrs.Attr) []attrs.Attr { return l }
	class := attr("objectClass", "group")
	many := values(33, 10)
	big, bad := attrs.Make(huge())
	if bad != api.OK {
		t.Fatal(bad)
	}
	for _, x := range []struct {
		want api.Errno
		e    entry.Entry
	}{
		{api.OK, entry.Entry{"cn=a", "cn=a", 0, list(attr("cn", "A", "b"), class)}},
		{api.ErrArg, entry.Entry{}},
		// Lists that are not normalized.
		{api.ErrArg, entry.Entry{"cn=a", "cn=a", 0, list(class, attr("cn", "A", "b"))}},
		{api.ErrArg, entry.Entry{"cn=a", "cn=a", 0, list(attr("cn", "b", "A"), class)}},
		{api.ErrArg, entry.Entry{"cn=a", "cn=a", 0, list(attr("CN", "A", "b"), class)}},
		{api.ErrArg, entry.Entry{"cn=a", "cn=a", 0, list(attr("commonName", "A"), class)}},
		{api.ErrArg, entry.Entry{"cn=a", "cn=a", 0, list(attr("2.5.4.3", "A"), class)}},
		{api.ErrArg, entry.Entry{"cn=a", "cn=a", 0, list(attr("cn", "A", "a"), class)}},
		{api.ErrArg, entry.Entry{"cn=a", "cn=a", 0, list(attr("cn", "A"), attr("cn", "b"), class)}},
		{api.ErrArg, entry.Entry{"cn=a", "cn=a", 0, list(attr("cn", "A"), attr("description"), class)}},
		{api.ErrArg, entry.Entry{"cn=a", "cn=a", 0, list(attr("cn", "A"), attr("description", ""), class)}},
		{api.ErrArg, entry.Entry{"cn=a", "cn=a", 0, list(attr("cn", "A"), attr("description", many...), class)}},
		{api.ErrArg, entry.Entry{"dc=a", "dc=a", 0, list(attr("dc", "a", "b"), attr("o", "x"), attr("objectClass", "dcObject", "organization"))}},
		{api.ErrArg, entry.Entry{"cn=a", "cn=a", 0, list(attr("cn", "A"), class, attr("x", "y"))}},
		{api.ErrArg, entry.Entry{"cn=a", "cn=a", 0, huge()}},
		// Errors of New.
		{api.ErrArg, entry.Entry{"cn=a", "cn=A b", 0, list(attr("cn", "A", "b"), class)}},
		{api.ErrArg, entry.Entry{"cn=A", "cn=A", 0, list(attr("cn", "A", "b"), class)}},
		{api.ErrArg, entry.Entry{"", "", 0, list(attr("cn", "A", "b"), class)}},
		{api.ErrArg, entry.Entry{"cn=a", "", 0, list(attr("cn", "A", "b"), class)}},
		{api.ErrArg, entry.Entry{"cn=a", "a", 0, list(attr("cn", "A", "b"), class)}},
		{api.ErrArg, entry.Entry{"cn=a", "cn=a", -1, list(attr("cn", "A", "b"), class)}},
		{api.ErrArg, entry.Entry{"cn=c", "cn=c", 0, list(attr("cn", "A", "b"), class)}},
		{api.ErrArg, entry.Entry{"cn=a", "cn=a", 0, list(attr("cn", "A", "b"), class, attr("sn", "b"))}},
		{api.ErrArg, entry.Entry{"cn=a", "cn=a", 0, list(attr("cn", "A", "b"))}},
		{api.ErrBig, entry.Entry{"cn=a", "cn=a", 0, big}},
		{api.ErrArg, entry.Entry{"cn=b", "cn=b", 0, big}},
		{api.ErrArg, entry.Entry{"cn=a", "cn=a", -1, big}},
		{api.ErrArg, entry.Entry{"cn=b", "cn=a", 0, big}},
	} {
		if got := wantPut(t, x.e); got != x.want {
			t.Errorf("Put of %#v: %d instead of %d", x.e, got, x.want)
		}
	}
}

// sample returns the bytes of an entry, in parts that can be replaced: its key, its name, its version, and its attributes.
func sample() [][]byte {
	return [][]byte{block(0x04, []byte("cn=a,o=x")), block(0x04, []byte("CN=A,o=x")), block(0x02, []byte{1, 0}), block(0x30, sampleAttrs()...)}
}

// sampleAttrs returns the bytes of the attributes.
func sampleAttrs() [][]byte {
	text := func(s string) []byte { return block(0x04, []byte(s)) }
	return [][]byte{
		block(0x30, text("cn"), block(0x31, text("A"), text("b"))),
		block(0x30, text("member"), block(0x31, text("o=x"))),
		block(0x30, text("objectClass"), block(0x31, text("group"))),
	}
}

// with returns l with other bytes in the place of one of its elements.
func with(l [][]byte, at int, b []byte) [][]byte {
	l = slices.Clone(l)
	l[at] = b
	return l
}

// P13.3: bytes that are those of no entry.
func TestReadErrors(t *testing.T) {
	if !wantRead(t, block(0x30, sample()...)) {
		t.Fatal("sample")
	}
	text := func(s string) []byte { return block(0x04, []byte(s)) }
	values := func(l ...string) []byte {
		var b [][]byte
		for _, s := range l {
			b = append(b, text(s))
		}
		return block(0x31, b...)
	}
	whole := func(at int, b []byte) []byte { return block(0x30, with(sample(), at, b)...) }
	list := func(at int, b []byte) []byte { return whole(3, block(0x30, with(sampleAttrs(), at, b)...)) }
	cn := func(b ...[]byte) []byte { return list(0, block(0x30, b...)) }
	all, parts, attributes := block(0x30, sample()...), sample(), sampleAttrs()
	for i, b := range [][]byte{
		nil, {}, {0}, {0x30}, {0x30, 0}, {0xff}, {0x30, 0x80}, {0x30, 0x84, 0xff, 0xff, 0xff, 0xff},
		append(slices.Clone(all), 0), append([]byte{0}, all...), slices.Concat(all, all),
		append([]byte{0x31}, all[1:]...), append([]byte{0x10}, all[1:]...), append([]byte{0x70}, all[1:]...), append([]byte{0x24}, all[1:]...),
		// Longer lengths, and a longer number.
		append([]byte{0x30, 0x81}, all[1:]...), append([]byte{0x30, 0x82, 0}, all[1:]...),
		whole(0, append([]byte{0x04, 0x81}, parts[0][1:]...)), whole(2, append([]byte{0x02, 0x81}, parts[2][1:]...)), whole(3, append([]byte{0x30, 0x81}, parts[3][1:]...)),
		whole(2, []byte{0x02, 2, 0, 1}), whole(2, []byte{0x02, 0}), whole(2, []byte{0x02, 9, 1, 0, 0, 0, 0, 0, 0, 0, 0}), whole(2, []byte{0x02, 1, 0xff}),
		// Other numbers of parts.
		block(0x30, parts[:3]...), block(0x30, parts[1:]...), block(0x30, append(sample(), nil, text(""))...), block(0x30, append(sample(), parts[3])...), block(0x30, text("x"), all),
		block(0x30, parts[0], parts[1], parts[3]), block(0x30, parts[0], parts[1], parts[3], parts[2]), block(0x30, parts[1], parts[0], parts[2], parts[3]),
		cn(text("cn")), cn(), cn(values("A", "b")), cn(text("cn"), values()), cn(text("cn"), values("A", "b"), text("")), cn(text("cn"), values("A", "b"), values("c")), cn(values("A", "b"), text("cn")),
		cn(text("cn"), text("A"), text("b")), cn(text("cn"), text("A")),
		// Other identifiers.
		whole(0, block(0x0c, []byte("cn=a,o=x"))), whole(1, block(0x24, text("CN=A,o=x"))), whole(1, block(0x44, []byte("CN=A,o=x"))), whole(2, block(0x0a, []byte{1, 0})), whole(2, text("\x01\x00")), whole(3, block(0x31, attributes...)), whole(3, block(0x10, attributes...)),
		list(0, block(0x31, text("cn"), values("A", "b"))), list(0, block(0x10, text("cn"), values("A", "b"))), cn(block(0x0c, []byte("cn")), values("A", "b")), cn(block(0x24, text("cn")), values("A", "b")),
		cn(text("cn"), block(0x30, text("A"), text("b"))), cn(text("cn"), block(0x11, text("A"), text("b"))), cn(text("cn"), block(0x31, block(0x0c, []byte("A")), text("b"))), cn(text("cn"), block(0x31, text("A"), values("b"))), cn(text("cn"), block(0x31, block(0x24, text("A")), text("b"))),
		// Parts of no entry.
		whole(0, text("cn=A,o=x")), whole(0, text("cn=a")), whole(0, text("")), whole(1, text("x")), whole(1, text("CN=B,o=x")), whole(1, text("")), block(0x30, text(""), text(""), parts[2], parts[3]), block(0x30, text("cn=c"), text("cn=c"), parts[2], parts[3]),
		cn(text("CN"), values("A", "b")), cn(text("cn"), values("b", "A")), cn(text("cn"), values("A", "A")), cn(text("cn"), values("A", "")), cn(text("cn"), values("b")), cn(text("sn"), values("A", "b")), cn(text("c"), values("A")), cn(text("x"), values("A")), cn(text(""), values("A")),
		whole(3, block(0x30)), whole(3, block(0x30, attributes[:2]...)), whole(3, block(0x30, attributes[1:]...)), whole(3, block(0x30, attributes[2], attributes[0], attributes[1])), whole(3, block(0x30, attributes[0], attributes[0], attributes[1], attributes[2])),
		whole(3, block(0x30, append(sampleAttrs(), nil, block(0x30))...)),
	} {
		if wantRead(t, b) {
			t.Errorf("%d: Read of %x", i, b)
		}
	}
}

// P13.3: each change of one byte, each byte left out, each byte more, and each beginning.
func TestReadEachChange(t *testing.T) {
	accepted := 0
	for _, b := range [][]byte{block(0x30, sample()...), modelBytes(made(t, "o=x", "O=X", 1<<40, attr("o", "X", "y"), attr("objectClass", "organization"), attr("description", strings.Repeat("d", 130))))} {
		for i := range b {
			if wantRead(t, b[:i]) {
				t.Errorf("Read of %x", b[:i])
			}
			if wantRead(t, slices.Concat(b[:i], b[i+1:])) {
				accepted++
			}
			for c := range 256 {
				changed := slices.Clone(b)
				changed[i] = byte(c)
				if wantRead(t, changed) {
					accepted++
				}
				if c%7 == 0 {
					wantRead(t, slices.Concat(b[:i], []byte{byte(c)}, b[i:]))
				}
			}
		}
	}
	if accepted < 1000 {
		t.Error(accepted)
	}
}

// P13.4: Same of entries that differ in one thing.
func TestSame(t *testing.T) {
	a := entry.Entry{Key: "cn=a", Name: "CN=a", Version: 3, Attrs: []attrs.Attr{attr("cn", "A", "b"), attr("objectClass", "group")}}
	others := []entry.Entry{{}, a, a, a, a, a, a, a, a, a}
	others[1].Key = "cn=b"
	others[2].Name = "cn=a"
	others[3].Version = 4
	others[4].Version = -3
	others[5].Attrs = a.Attrs[:1]
	others[6].Attrs = []attrs.Attr{attr("cn", "a", "b"), attr("objectClass", "group")}
	others[7].Attrs = []attrs.Attr{attr("cn", "A"), attr("objectClass", "group")}
	others[8].Key, others[8].Name = a.Name, a.Key
	others[9].Attrs = []attrs.Attr{attr("sn", "A", "b"), attr("objectClass", "group")}
	others = append(others, a)
	for i, b := range others {
		for j, c := range others {
			if got := entry.Same(b, c); got != (i == j) {
				t.Errorf("Same of %#v and %#v: %v", b, c, got)
			}
		}
	}
	b := entry.Entry{Key: strings.Clone("cn=a"), Name: "CN=" + strings.Clone("a"), Version: 3, Attrs: []attrs.Attr{attr("cn", "A", "b"), attr("objectClass", "group")}}
	if !entry.Same(a, b) || !entry.Same(entry.Entry{}, entry.Entry{Attrs: []attrs.Attr{}}) {
		t.Error("equal entries")
	}
}

// P13.4: Members.
func TestMembers(t *testing.T) {
	for _, x := range []struct{ members, want []string }{
		{nil, nil},
		{[]string{"O=X"}, []string{"o=x"}},
		{[]string{"o=x", "CN = b ; o=X", "2.5.4.3=A,o=x"}, []string{"cn=a,o=x", "cn=b,o=x", "o=x"}},
		{[]string{"sn=a+cn=B", ""}, []string{"", "cn=b+sn=a"}},
		{[]string{"o=b", "o=ab", "o=a", "c=z"}, []string{"c=z", "o=a", "o=ab", "o=b"}},
	} {
		e := made(t, "cn=a", "cn=a", 0, group(only("a"), x.members...)...)
		if got := entry.Members(e); !slices.Equal(got, x.want) {
			t.Errorf("Members of %q: %q", x.members, got)
		}
	}
	e := made(t, "cn=a", "cn=a", 0, append(group(only("a")), attr("owner", "o=x"), attr("seeAlso", "o=y"))...)
	if got := entry.Members(e); len(got) != 0 {
		t.Error(got)
	}
	// The order is that of the keys, also where the values have another one.
	e.Attrs = []attrs.Attr{attr("member", "o=b", "CN=a", "O=a")}
	if got := entry.Members(e); !slices.Equal(got, []string{"cn=a", "o=a", "o=b"}) {
		t.Error(got)
	}
	if got := entry.Members(entry.Entry{}); len(got) != 0 {
		t.Error(got)
	}
}

// Rule 1: the functions return for all entries.
func TestOtherEntries(t *testing.T) {
	lists := [][]attrs.Attr{nil, {{}}, {attr("x", "a")}, {attr("objectClass")}, {attr("member", "x", "o=b", "\xff", "o=a")}, {attr("objectClass", "group"), attr("objectClass", "group"), attr("cn", "a")}, make([]attrs.Attr, 1000), {attr("cn", values(300, 2000)...)}}
	keys := []string{"", ",", "+", "=", "\\", "cn", "cn=", "cn=\\", "cn=a+", "x=y", "\xff=\xff", strings.Repeat("cn=a+", 5000), strings.Repeat("o=x,", 5000), strings.Repeat("\\", 4001)}
	for _, l := range lists {
		for _, k := range keys {
			for _, version := range []int{0, -1, math.MaxInt} {
				e := entry.Entry{Key: k, Name: k, Version: version, Attrs: l}
				entry.Check(e)
				entry.Members(e)
				entry.Same(e, entry.Entry{})
				wantNew(t, k, k, version, l)
				wantPut(t, e)
			}
		}
	}
}

// Rule 4: arguments are not modified, nor what is behind them.
func TestArgumentsStay(t *testing.T) {
	names := []string{"B", "a", "behind"}
	all := []attrs.Attr{attr("objectClass", "group"), attr("CN", names[:2]...), attr("behind")}
	e := made(t, "cn=a", "cn=a", 0, all[:2]...)
	if !slices.Equal(names, []string{"B", "a", "behind"}) || all[0].Name != "objectClass" || all[1].Name != "CN" || all[2].Name != "behind" {
		t.Errorf("%q %q", names, all)
	}
	members := []string{"o=x", "cn=z,o=a", "behind"}
	e.Attrs = []attrs.Attr{attr("cn", "a", "B"), attr("member", members[1], members[0]), attr("objectClass", "group"), attr("behind")}[:3]
	b, bad := entry.Put(e)
	if bad != api.OK {
		t.Fatal(bad)
	}
	entry.Check(e)
	entry.Same(e, e)
	e.Attrs[1].Values = members[:2]
	entry.Members(e)
	if !slices.Equal(members, []string{"o=x", "cn=z,o=a", "behind"}) || e.Attrs[:4][3].Name != "behind" {
		t.Errorf("%#v %#v", members, e)
	}
	room := append(slices.Clone(b), "behind"...)
	before := slices.Clone(room)
	if _, bad := entry.Read(room[:len(b)]); bad != api.OK || !bytes.Equal(room, before) {
		t.Errorf("%x %d", room, bad)
	}
}

// share tells whether two strings have memory in common.
func share(a, b string) bool {
	from, to := uintptr(unsafe.Pointer(unsafe.StringData(a))), uintptr(unsafe.Pointer(unsafe.StringData(b)))
	return a != "" && b != "" && from < to+uintptr(len(b)) && to < from+uintptr(len(a))
}

// texts returns all strings of an entry.
func texts(e entry.Entry) []string {
	out := []string{e.Key, e.Name}
	for _, x := range e.Attrs {
		out = append(append(out, x.Name), x.Values...)
	}
	return out
}

// wantOther holds that no text of got is in the memory of one of l.
func wantOther(t *testing.T, what string, got []string, l []string) {
	t.Helper()
	for _, a := range got {
		for _, b := range l {
			if share(a, b) {
				t.Errorf("%s: %q", what, a)
			}
		}
	}
}

// Rule 4: results are new memory.
func TestResultsAreNew(t *testing.T) {
	clone := func(s string) string { return strings.Clone(s) }
	given := entry.Entry{Key: clone("cn=a"), Name: clone("cn=a"), Attrs: []attrs.Attr{attr(clone("cn"), clone("a")), attr(clone("member"), clone("cn=b,o=x"), clone("o=x")), attr(clone("objectClass"), clone("group"))}}
	e := made(t, given.Key, given.Name, 0, given.Attrs...)
	wantOther(t, "New", texts(e), texts(given))
	wantOther(t, "Members", entry.Members(given), texts(given))
	b, bad := entry.Put(given)
	again, _ := entry.Put(given)
	if bad != api.OK || &b[0] == &again[0] {
		t.Error(bad)
	}
	back, bad := entry.Read(b)
	if bad != api.OK {
		t.Fatal(bad)
	}
	wantOther(t, "Read", texts(back), []string{unsafe.String(&b[0], len(b))})
	clear(b)
	if !equal(back, given) {
		t.Errorf("%#v", back)
	}
	e.Attrs[0].Values[0], e.Attrs[1].Name = "changed", "changed"
	if !equal(back, given) || given.Attrs[0].Values[0] != "a" {
		t.Errorf("%#v %#v", back, given)
	}
	// No two lists of a result share memory: one does not grow into another.
	l := back.Attrs
	_ = append(l[0].Values, "more")
	if !equal(back, given) {
		t.Errorf("%#v", back)
	}
}
