package attrs_test

import (
	"math"
	"slices"
	"strconv"
	"strings"
	"testing"
	"unsafe"

	"peerage/api"
	"peerage/attrs"
	"peerage/dn"
	"peerage/schema"
)

// attr returns an attribute.
func attr(name string, values ...string) attrs.Attr {
	return attrs.Attr{Name: name, Values: values}
}

// add, del and replace return changes.
func add(kind string, values ...string) attrs.Change {
	return attrs.Change{Kind: 0, Type: kind, Values: values}
}

func del(kind string, values ...string) attrs.Change {
	return attrs.Change{Kind: 1, Type: kind, Values: values}
}

func replace(kind string, values ...string) attrs.Change {
	return attrs.Change{Kind: 2, Type: kind, Values: values}
}

// numbers returns the values from, from+1 and so on up to to, with a letter before each.
func numbers(from, to int) []string {
	var l []string
	for i := from; i <= to; i++ {
		l = append(l, "v"+strconv.Itoa(i))
	}
	return l
}

// equal tells whether two lists are equal, also where one of them, or of their values, is nil and the other is empty.
func equal(a, b []attrs.Attr) bool {
	return slices.EqualFunc(a, b, func(x, y attrs.Attr) bool { return x.Name == y.Name && slices.Equal(x.Values, y.Values) })
}

// made returns the list that Make makes of l, which it must accept.
func made(t *testing.T, l ...attrs.Attr) []attrs.Attr {
	t.Helper()
	n, e := attrs.Make(l)
	if e != api.OK {
		t.Fatalf("Make of %q: %d", l, e)
	}
	return n
}

// wantMake holds Make of l against the model, and what it returns against the definition. It tells whether there is no error.
func wantMake(t *testing.T, l []attrs.Attr) bool {
	t.Helper()
	want, wantError := modelMake(l)
	got, e := attrs.Make(l)
	if !equal(got, want) || e != wantError {
		t.Errorf("Make of %q: %q %d instead of %q %d", l, got, e, want, wantError)
	}
	wantNormalized(t, got)
	return e == api.OK
}

// wantApply holds Apply of l and c against the model, and what it returns against the definition. It tells whether there is no error.
func wantApply(t *testing.T, l []attrs.Attr, c ...attrs.Change) bool {
	t.Helper()
	want, wantError := modelApply(l, c)
	got, e := attrs.Apply(l, c)
	if !equal(got, want) || e != wantError {
		t.Errorf("Apply of %q and %v: %q %d instead of %q %d", l, c, got, e, want, wantError)
	}
	wantNormalized(t, got)
	return e == api.OK
}

// wantNormalized holds l against the definition of a normalized list, and the functions of lists against what it has (P12.3).
func wantNormalized(t *testing.T, l []attrs.Attr) {
	t.Helper()
	if len(l) > maxAttrs {
		t.Errorf("%q: %d attributes", l, len(l))
	}
	var names []string
	for i, x := range l {
		a, ok := modelFind(x.Name)
		if !ok || a.Name != x.Name || i > 0 && small(l[i-1].Name) >= small(x.Name) {
			t.Errorf("%q: %q", l, x.Name)
		}
		wantValues(t, a, x.Values)
		for _, s := range []string{a.Name, strings.ToUpper(a.Name), a.Oid} {
			if got := attrs.Values(l, s); !slices.Equal(got, x.Values) {
				t.Errorf("Values of %q in %q: %q", s, l, got)
			}
		}
		for _, v := range x.Values {
			if !attrs.Has(l, x.Name, v) {
				t.Errorf("Has of %q and %q in %q", x.Name, v, l)
			}
		}
		names = append(names, x.Name)
	}
	if got := attrs.Names(l); !slices.Equal(got, names) {
		t.Errorf("Names of %q: %q", l, got)
	}
	if !attrs.Same(l, l) {
		t.Errorf("Same of %q", l)
	}
	if again, e := attrs.Make(l); !equal(again, l) || e != api.OK {
		t.Errorf("Make of %q: %q %d", l, again, e)
	}
	if again, e := attrs.Apply(l, nil); !equal(again, l) || e != api.OK {
		t.Errorf("Apply of %q: %q %d", l, again, e)
	}
}

// wantValues holds the values of an attribute against the definition of a normalized list.
func wantValues(t *testing.T, a schema.Attribute, l []string) {
	t.Helper()
	if len(l) < 1 || len(l) > maxValues || a.Single && len(l) > 1 {
		t.Errorf("%q: %d values", a.Name, len(l))
	}
	for i, v := range l {
		k, ok := dn.Key(a.Syntax, v)
		if !ok || i > 0 && keyOf(a, l[i-1]) >= k {
			t.Errorf("%q: %q in %q", a.Name, v, l)
		}
	}
}

// The limits are those that the tests name.
func TestLimits(t *testing.T) {
	if api.MaxAttrs != maxAttrs || api.MaxValues != maxValues {
		t.Error(api.MaxAttrs, api.MaxValues)
	}
}

// P12.1: the order of attributes and values, their names, and the values as given.
func TestMake(t *testing.T) {
	for _, x := range []struct{ l, want []attrs.Attr }{
		{nil, nil},
		{[]attrs.Attr{attr("SN", "b", "a")}, []attrs.Attr{attr("sn", "a", "b")}},
		{[]attrs.Attr{attr("SURNAME", "x")}, []attrs.Attr{attr("sn", "x")}},
		{[]attrs.Attr{attr("2.5.4.0", "TOP")}, []attrs.Attr{attr("objectClass", "TOP")}},
		{[]attrs.Attr{attr("Userid", " B ", "a  c", "A")}, []attrs.Attr{attr("uid", "A", "a  c", " B ")}},
		// Attributes are in order of their names in the schema, whatever they are given as.
		{[]attrs.Attr{attr("ou", "a"), attr("OBJECTCLASS", "top"), attr("o", "b"), attr("owner", "o=x")}, []attrs.Attr{attr("o", "b"), attr("objectClass", "top"), attr("ou", "a"), attr("owner", "o=x")}},
		// Values are in order of their keys, which may be another one than theirs.
		{[]attrs.Attr{attr("cn", "B", "a", "C")}, []attrs.Attr{attr("cn", "a", "B", "C")}},
		{[]attrs.Attr{attr("serialNumber", "a", "B")}, []attrs.Attr{attr("serialNumber", "B", "a")}},
		{[]attrs.Attr{attr("telephoneNumber", "2", " 1 9", "10")}, []attrs.Attr{attr("telephoneNumber", "10", " 1 9", "2")}},
		{[]attrs.Attr{attr("objectClass", "top", "2.5.6.6", "GROUP")}, []attrs.Attr{attr("objectClass", "GROUP", "2.5.6.6", "top")}},
		{[]attrs.Attr{attr("member", "o=b", "CN=Z,o=a", "", "2.5.4.3=a+c=b")}, []attrs.Attr{attr("member", "", "2.5.4.3=a+c=b", "CN=Z,o=a", "o=b")}},
		{[]attrs.Attr{attr("userPassword", "b", "\xff", "B", "", "\x00", "bb")}, []attrs.Attr{attr("userPassword", "", "\x00", "B", "b", "bb", "\xff")}},
		// A value that has the key of another one in another attribute.
		{[]attrs.Attr{attr("sn", "a"), attr("cn", "a")}, []attrs.Attr{attr("cn", "a"), attr("sn", "a")}},
		{[]attrs.Attr{attr("employeeNumber", "-007")}, []attrs.Attr{attr("employeeNumber", "-007")}},
	} {
		if got, e := attrs.Make(x.l); !equal(got, x.want) || e != api.OK {
			t.Errorf("Make of %q: %q %d instead of %q", x.l, got, e, x.want)
		}
		wantMake(t, x.l)
	}
}

// everyName has the names of all attributes in the order of their small letters.
var everyName = []string{"c", "cn", "dc", "description", "employeeNumber", "enabled", "givenName", "mail", "member", "o", "objectClass", "ou", "owner", "seeAlso", "serialNumber", "sn", "telephoneNumber", "uid", "userPassword", "weight"}

// valueOf returns a valid value of the attribute a.
func valueOf(a schema.Attribute) string {
	switch a.Syntax {
	case schema.Whole, schema.Numeric:
		return "12"
	case schema.Truth:
		return "TRUE"
	case schema.Name:
		return "o=X"
	case schema.Real:
		return "3FF0000000000000"
	}
	return "Person"
}

// every returns all attributes with a value each, in the order of the schema or in the opposite one.
func every(backwards bool) []attrs.Attr {
	var l []attrs.Attr
	for _, a := range schema.Attributes() {
		l = append(l, attr(a.Name, valueOf(a)))
	}
	if backwards {
		slices.Reverse(l)
	}
	return l
}

// P12.1, P12.3: all attributes at once, of which there are fewer than a list may have.
func TestEveryAttribute(t *testing.T) {
	for _, backwards := range []bool{false, true} {
		l := every(backwards)
		if n := attrs.Names(made(t, l...)); !slices.Equal(n, everyName) {
			t.Error(n)
		}
		wantMake(t, l)
		if wantMake(t, append(l, attr("Userid", "other"))) || wantMake(t, append(l, attr("x", "y"))) {
			t.Error("one more")
		}
		for _, x := range l {
			a, _ := modelFind(x.Name)
			wantMake(t, []attrs.Attr{x})
			wantMake(t, []attrs.Attr{x, attr(a.Oid, "o=other")})
			wantMake(t, []attrs.Attr{attr(small(a.Alias), x.Values...)})
			wantMake(t, []attrs.Attr{attr(x.Name, "\xff")})
		}
	}
}

// P12.1: each error, and which one of two is returned.
func TestMakeErrors(t *testing.T) {
	many, again := numbers(1, maxValues+1), append(numbers(1, maxValues), "V1")
	long := strings.Repeat("a", api.MaxText+1)
	for _, x := range []struct {
		want api.Errno
		l    []attrs.Attr
	}{
		{api.ErrNone, []attrs.Attr{attr("x", "a")}},
		{api.ErrNone, []attrs.Attr{attr("")}},
		{api.ErrNone, []attrs.Attr{attr("cn;lang-de", "a")}},
		{api.ErrNone, []attrs.Attr{attr(" cn", "a")}},
		{api.ErrNone, []attrs.Attr{attr("-", "a")}},
		{api.ErrNone, []attrs.Attr{attr("x"), attr("x")}},
		{api.ErrThere, []attrs.Attr{attr("cn", "a"), attr("cn", "b")}},
		{api.ErrThere, []attrs.Attr{attr("cn", "a"), attr("sn", "b"), attr("2.5.4.3", "b")}},
		{api.ErrThere, []attrs.Attr{attr("cn", "a"), attr("COMMONNAME")}},
		{api.ErrThere, []attrs.Attr{attr("dc", "a"), attr("dc", "\xff")}},
		{api.ErrForm, []attrs.Attr{attr("cn")}},
		{api.ErrForm, []attrs.Attr{attr("dc", []string{}...)}},
		{api.ErrForm, []attrs.Attr{attr("sn", "a"), attr("cn")}},
		{api.ErrArg, []attrs.Attr{attr("cn", "")}},
		{api.ErrArg, []attrs.Attr{attr("cn", "a", " ")}},
		{api.ErrArg, []attrs.Attr{attr("cn", "a", "\xff", "A")}},
		{api.ErrArg, []attrs.Attr{attr("cn", "a", "A", "\xff")}},
		{api.ErrArg, []attrs.Attr{attr("cn", long)}},
		{api.ErrArg, []attrs.Attr{attr("userPassword", "", long)}},
		{api.ErrArg, []attrs.Attr{attr("member", "x")}},
		{api.ErrArg, []attrs.Attr{attr("member", "o="+long)}},
		{api.ErrArg, []attrs.Attr{attr("owner", "member=o\\=x")}},
		{api.ErrArg, []attrs.Attr{attr("employeeNumber", "1", "1", "x")}},
		{api.ErrArg, []attrs.Attr{attr("enabled", "true")}},
		{api.ErrArg, []attrs.Attr{attr("weight", "1")}},
		{api.ErrArg, []attrs.Attr{attr("objectClass", "a b")}},
		{api.ErrArg, []attrs.Attr{attr("cn", append(slices.Clone(many), "")...)}},
		{api.ErrThere, []attrs.Attr{attr("cn", "a", "b", "A")}},
		{api.ErrThere, []attrs.Attr{attr("member", "o=x,c=y", "O = X ; C=Y")}},
		{api.ErrThere, []attrs.Attr{attr("objectClass", "person", "2.5.6.6")}},
		{api.ErrThere, []attrs.Attr{attr("dc", "a", "A")}},
		{api.ErrThere, []attrs.Attr{attr("dc", "a", "b", "a")}},
		{api.ErrThere, []attrs.Attr{attr("cn", again...)}},
		{api.ErrThere, []attrs.Attr{attr("cn", append(slices.Clone(many), "V2")...)}},
		{api.ErrState, []attrs.Attr{attr("dc", "a", "b")}},
		{api.ErrState, []attrs.Attr{attr("c", many...)}},
		{api.ErrState, []attrs.Attr{attr("enabled", "TRUE", "FALSE")}},
		{api.ErrBig, []attrs.Attr{attr("cn", many...)}},
		// The first attribute with an error counts, whatever the error.
		{api.ErrBig, []attrs.Attr{attr("cn", many...), attr("x")}},
		{api.ErrState, []attrs.Attr{attr("dc", "a", "b"), attr("dc", "c")}},
		{api.ErrArg, []attrs.Attr{attr("sn", "a"), attr("cn", ""), attr("sn", "b")}},
		{api.ErrNone, []attrs.Attr{attr("sn", "a"), attr("x"), attr("cn")}},
		{api.ErrForm, []attrs.Attr{attr("cn"), attr("cn", "a"), attr("x")}},
	} {
		if got, e := attrs.Make(x.l); len(got) != 0 || e != x.want {
			t.Errorf("Make of %q: %q %d instead of %d", x.l, got, e, x.want)
		}
		wantMake(t, x.l)
	}
}

// P12.1: the number of values at the limits and one beyond.
func TestMakeLimits(t *testing.T) {
	for n := range 40 {
		for _, name := range []string{"cn", "serialNumber", "userPassword", "dc", "c"} {
			want := n >= 1 && n <= maxValues && (name != "dc" && name != "c" || n == 1)
			if got := wantMake(t, []attrs.Attr{attr(name, numbers(1, n)...)}); got != want {
				t.Errorf("%d values of %q: %v", n, name, got)
			}
		}
	}
	for _, n := range []int{511, 512, 513} {
		v := strings.Repeat("a", n)
		if got := wantMake(t, []attrs.Attr{attr("cn", v), attr("userPassword", v)}); got != (n <= 512) {
			t.Errorf("%d bytes: %v", n, got)
		}
	}
}

// P12.2: each kind of change.
func TestApply(t *testing.T) {
	l := made(t, attr("cn", "Foo  Bar", "a"), attr("dc", "x"), attr("member", "o=x", "CN=y, o=x"), attr("sn", "b"))
	cn, dc, member, sn := l[0], l[1], l[2], l[3]
	for _, x := range []struct {
		want []attrs.Attr
		c    []attrs.Change
	}{
		{l, nil},
		{[]attrs.Attr{attr("cn", "a", "B", "Foo  Bar", "g"), dc, member, sn}, []attrs.Change{add("CN", "g", "B")}},
		{[]attrs.Attr{cn, dc, member, sn, attr("uid", "U")}, []attrs.Change{add("userid", "U")}},
		{[]attrs.Attr{attr("c", "d"), cn, dc, member, sn}, []attrs.Change{add("2.5.4.6", "d")}},
		{[]attrs.Attr{attr("cn", "a"), dc, member, sn}, []attrs.Change{del("commonName", " foo bar ")}},
		{[]attrs.Attr{dc, member, sn}, []attrs.Change{del("cn", "A", "FOO BAR")}},
		{[]attrs.Attr{dc, member, sn}, []attrs.Change{del("cn")}},
		{[]attrs.Attr{cn, dc, attr("member", "o=x"), sn}, []attrs.Change{del("member", "2.5.4.3=Y;O=X")}},
		{[]attrs.Attr{attr("cn", "FOO BAR", "new"), dc, member, sn}, []attrs.Change{replace("CN", "new", "FOO BAR")}},
		{[]attrs.Attr{cn, attr("dc", "X"), member, sn}, []attrs.Change{replace("dc", "X")}},
		{[]attrs.Attr{cn, dc, member, attr("o", "z"), sn}, []attrs.Change{replace("o", "z")}},
		{[]attrs.Attr{cn, dc, member}, []attrs.Change{replace("sn")}},
		{l, []attrs.Change{replace("uid")}},
		// A change sees what those before it left.
		{l, []attrs.Change{add("cn", "g"), del("cn", "G")}},
		{l, []attrs.Change{add("uid", "u", "v"), del("uid")}},
		{l, []attrs.Change{del("sn", "b"), add("sn", "b")}},
		{[]attrs.Attr{cn, attr("dc", "y"), member, sn}, []attrs.Change{del("dc", "x"), add("dc", "y")}},
		{[]attrs.Attr{cn, dc, member, attr("sn", "B")}, []attrs.Change{del("sn", "b"), add("sn", "B")}},
		{[]attrs.Attr{attr("cn", "c"), dc, member, sn}, []attrs.Change{del("cn", "a"), add("cn", "b", "c"), del("cn", "b"), del("cn", "foo bar")}},
		{nil, []attrs.Change{del("cn"), replace("dc"), del("member", "o=x", "cn=y,o=x"), del("sn", "B")}},
	} {
		if got, e := attrs.Apply(l, x.c); !equal(got, x.want) || e != api.OK {
			t.Errorf("Apply of %v: %q %d instead of %q", x.c, got, e, x.want)
		}
		wantApply(t, l, x.c...)
	}
	if got, e := attrs.Apply(nil, []attrs.Change{add("sn", "b"), add("CN", "a", "Foo  Bar"), replace("dc", "x"), add("member", "CN=y, o=x", "o=x")}); !equal(got, l) || e != api.OK {
		t.Error(got, e)
	}
	if got, e := attrs.Apply(nil, nil); len(got) != 0 || e != api.OK {
		t.Error(got, e)
	}
}

// P12.2: each error, and which one of two is returned.
func TestApplyErrors(t *testing.T) {
	full := numbers(1, maxValues)
	l := made(t, attr("cn", full...), attr("dc", "x"), attr("sn", "b", "c"))
	many := numbers(1, maxValues+1)
	for _, x := range []struct {
		want api.Errno
		c    []attrs.Change
	}{
		{api.ErrNone, []attrs.Change{add("x", "a")}},
		{api.ErrNone, []attrs.Change{add("x")}},
		{api.ErrNone, []attrs.Change{del("")}},
		{api.ErrNone, []attrs.Change{replace("cn;lang-de", "\xff")}},
		{api.ErrNone, []attrs.Change{{Kind: 3, Type: "x"}}},
		{api.ErrArg, []attrs.Change{add("sn", "")}},
		{api.ErrArg, []attrs.Change{add("sn", "b", "\xff")}},
		{api.ErrArg, []attrs.Change{add("sn", "d", "D", "\xff")}},
		{api.ErrArg, []attrs.Change{del("sn", "b", "")}},
		{api.ErrArg, []attrs.Change{del("uid", "")}},
		{api.ErrArg, []attrs.Change{replace("sn", "d", "d", "")}},
		{api.ErrArg, []attrs.Change{replace("employeeNumber", "x", "y")}},
		{api.ErrArg, []attrs.Change{{Kind: 3, Type: "sn", Values: []string{""}}}},
		{api.ErrThere, []attrs.Change{add("sn", "d", "D")}},
		{api.ErrThere, []attrs.Change{add("dc", "y", "y")}},
		{api.ErrThere, []attrs.Change{del("sn", "b", "B")}},
		{api.ErrThere, []attrs.Change{del("sn", "d", "d")}},
		{api.ErrThere, []attrs.Change{del("uid", "d", "d")}},
		{api.ErrThere, []attrs.Change{replace("dc", "y", "z", "y")}},
		{api.ErrThere, []attrs.Change{{Kind: -1, Type: "sn", Values: []string{"d", "d"}}}},
		// Kind 0
		{api.ErrForm, []attrs.Change{add("sn")}},
		{api.ErrForm, []attrs.Change{add("uid")}},
		{api.ErrThere, []attrs.Change{add("sn", "B")}},
		{api.ErrThere, []attrs.Change{add("sn", "a", "B", "d")}},
		{api.ErrThere, []attrs.Change{add("dc", "y", "X")}},
		{api.ErrThere, []attrs.Change{add("cn", many...)}},
		{api.ErrState, []attrs.Change{add("dc", "y")}},
		{api.ErrState, []attrs.Change{add("dc", full...)}},
		{api.ErrState, []attrs.Change{add("c", "a", "b")}},
		{api.ErrBig, []attrs.Change{add("cn", "v33")}},
		{api.ErrBig, []attrs.Change{add("uid", many...)}},
		// Kind 1
		{api.ErrStale, []attrs.Change{del("uid")}},
		{api.ErrStale, []attrs.Change{del("uid", "a")}},
		{api.ErrStale, []attrs.Change{del("sn", "d")}},
		{api.ErrStale, []attrs.Change{del("sn", "b", "d", "c")}},
		{api.ErrStale, []attrs.Change{del("cn", many...)}},
		// Kind 2
		{api.ErrState, []attrs.Change{replace("dc", "x", "y")}},
		{api.ErrState, []attrs.Change{replace("c", many...)}},
		{api.ErrBig, []attrs.Change{replace("cn", many...)}},
		{api.ErrBig, []attrs.Change{replace("uid", many...)}},
		// Other kinds
		{api.ErrForm, []attrs.Change{{Kind: 3, Type: "sn", Values: []string{"d"}}}},
		{api.ErrForm, []attrs.Change{{Kind: -1, Type: "sn"}}},
		{api.ErrForm, []attrs.Change{{Kind: 4, Type: "dc", Values: many}}},
		{api.ErrForm, []attrs.Change{{Kind: math.MinInt, Type: "uid"}}},
		{api.ErrForm, []attrs.Change{{Kind: math.MaxInt, Type: "uid", Values: []string{"u"}}}},
		// The first change with an error counts, whatever the error, and what later changes would do does not help.
		{api.ErrBig, []attrs.Change{add("cn", "v33"), del("cn", "v1")}},
		{api.ErrBig, []attrs.Change{add("cn", "v33"), add("x")}},
		{api.ErrState, []attrs.Change{add("dc", "y"), del("dc", "x")}},
		{api.ErrState, []attrs.Change{replace("dc", "y", "z"), replace("dc")}},
		{api.ErrForm, []attrs.Change{del("sn", "b"), add("uid"), del("uid")}},
		{api.ErrStale, []attrs.Change{del("sn", "b"), del("sn", "b")}},
		{api.ErrStale, []attrs.Change{del("sn"), del("sn")}},
		{api.ErrStale, []attrs.Change{del("sn", "b", "c"), del("sn")}},
		{api.ErrStale, []attrs.Change{replace("sn"), del("sn")}},
		{api.ErrStale, []attrs.Change{replace("sn", "d"), del("sn", "b")}},
		{api.ErrThere, []attrs.Change{add("uid", "u"), add("uid", "U")}},
		{api.ErrThere, []attrs.Change{replace("uid", "u"), add("uid", "v", "U")}},
	} {
		if got, e := attrs.Apply(l, x.c); len(got) != 0 || e != x.want {
			t.Errorf("Apply of %v: %q %d instead of %d", x.c, got, e, x.want)
		}
		wantApply(t, l, x.c...)
	}
}

// P12.2: the number of values at the limits and one beyond, in each way to get there.
func TestApplyLimits(t *testing.T) {
	for had := range maxValues + 1 {
		l := []attrs.Attr(nil)
		if had > 0 {
			l = made(t, attr("cn", numbers(1, had)...))
		}
		for more := 1; more < 36; more++ {
			fits := had+more <= maxValues
			if got := wantApply(t, l, add("cn", numbers(had+1, had+more)...)); got != fits {
				t.Errorf("%d values and %d more: %v", had, more, got)
			}
			if got := wantApply(t, l, replace("cn", numbers(1, more)...)); got != (more <= maxValues) {
				t.Errorf("%d values replaced by %d: %v", had, more, got)
			}
			if got := wantApply(t, l, del("cn", numbers(1, more)...)); got != (more <= had) {
				t.Errorf("%d values without %d: %v", had, more, got)
			}
			if got := wantApply(t, l, replace("cn"), add("cn", numbers(1, more)...)); got != (more <= maxValues) {
				t.Errorf("%d values: %v", more, got)
			}
		}
	}
	all := made(t, every(true)...)
	for _, x := range all {
		wantApply(t, all, del(x.Name), replace(x.Name, x.Values...))
		wantApply(t, all, add(x.Name, x.Values...))
		wantApply(t, all, add(x.Name, "FALSE"))
		wantApply(t, nil, add(x.Name, "FALSE"))
	}
}

// P12.2: all short sequences of some changes.
func TestEachShortSequence(t *testing.T) {
	start := [][]attrs.Attr{nil, made(t, attr("cn", "a")), made(t, attr("cn", "A", "b"), attr("dc", "x"))}
	var changes []attrs.Change
	for kind := -1; kind <= 3; kind++ {
		for _, values := range [][]string{nil, {"a"}, {"B"}, {"b", "A"}, {"a", "A"}, {"\xff"}} {
			for _, name := range []string{"commonName", "dc"} {
				changes = append(changes, attrs.Change{Kind: kind, Type: name, Values: values})
			}
		}
	}
	changes = append(changes, add("x", "a"), add("sn", "z"))
	accepted := 0
	for _, l := range start {
		for _, a := range changes {
			for _, b := range changes {
				for _, c := range changes[:len(changes)/2] {
					if wantApply(t, l, a, b, c) {
						accepted++
					}
				}
			}
			if t.Failed() {
				return
			}
		}
	}
	if accepted < 1000 {
		t.Error(accepted)
	}
}

// P12.3: Values.
func TestValues(t *testing.T) {
	l := made(t, attr("cn", "b", "A"), attr("member", "o=x"), attr("uid", " u "))
	for kind, want := range map[string][]string{
		"cn": {"A", "b"}, "CN": {"A", "b"}, "commonname": {"A", "b"}, "2.5.4.3": {"A", "b"}, "MEMBER": {"o=x"}, "userID": {" u "},
		"sn": nil, "dc": nil, "x": nil, "": nil, "cn ": nil, "cn;a": nil, "2.5.4": nil, "-": nil,
	} {
		if got := attrs.Values(l, kind); !slices.Equal(got, want) {
			t.Errorf("Values of %q: %q", kind, got)
		}
		if got := attrs.Values(nil, kind); len(got) != 0 {
			t.Errorf("Values of %q in nothing: %q", kind, got)
		}
	}
}

// P12.3: Has.
func TestHas(t *testing.T) {
	l := made(t, attr("cn", "Foo  Bar", "a"), attr("member", "CN=Y , o=X", ""), attr("objectClass", "2.5.6.6"), attr("userPassword", "s", ""), attr("weight", "8000000000000000"))
	for _, x := range []struct {
		kind, v string
		want    bool
	}{
		{"cn", "Foo  Bar", true}, {"CN", " foo bar", true}, {"commonName", "A", true}, {"2.5.4.3", "a", true},
		{"cn", "b", false}, {"cn", "", false}, {"cn", " ", false}, {"cn", "\xff", false}, {"cn", "foobar", false}, {"cn", "Foo", false},
		{"member", "cn=y,o=x", true}, {"member", "2.5.4.3=Y;O = X", true}, {"member", "", true}, {"member", "  ", true},
		{"member", "cn=y", false}, {"member", "o=x", false}, {"member", "x", false}, {"member", "x=y", false},
		{"objectClass", "PERSON", true}, {"objectclass", "2.5.6.6", true}, {"objectClass", "top", false}, {"objectClass", "", false},
		{"userPassword", "s", true}, {"userPassword", "", true}, {"userPassword", "S", false}, {"userPassword", " s", false},
		{"weight", "0000000000000000", true}, {"weight", "0", false},
		{"sn", "a", false}, {"owner", "", false}, {"x", "a", false}, {"", "", false}, {"cn;a", "a", false},
	} {
		if got := attrs.Has(l, x.kind, x.v); got != x.want {
			t.Errorf("Has of %q and %q: %v", x.kind, x.v, got)
		}
		if attrs.Has(nil, x.kind, x.v) {
			t.Errorf("Has of %q and %q in nothing", x.kind, x.v)
		}
	}
}

// P12.3: Has for each of as many values as there may be.
func TestHasEach(t *testing.T) {
	l := made(t, attr("cn", numbers(1, maxValues)...), attr("sn", "v33"))
	for i := range maxValues + 3 {
		if got := attrs.Has(l, "cn", "V"+strconv.Itoa(i)); got != (i >= 1 && i <= maxValues) {
			t.Errorf("%d: %v", i, got)
		}
	}
}

// P12.3: Names.
func TestNames(t *testing.T) {
	if got := attrs.Names(nil); len(got) != 0 {
		t.Error(got)
	}
	if got := attrs.Names(made(t, attr("SN", "b"), attr("2.5.4.0", "top"), attr("commonName", "x"))); !slices.Equal(got, []string{"cn", "objectClass", "sn"}) {
		t.Error(got)
	}
}

// P12.3: Same, also of two lists that differ in one thing.
func TestSame(t *testing.T) {
	lists := [][]attrs.Attr{
		nil,
		{attr("cn", "a")},
		{attr("cn", "A")},
		{attr("cn", " a")},
		{attr("cn", "a", "b")},
		{attr("cn", "b")},
		{attr("cn", "ab")},
		{attr("sn", "a")},
		{attr("sn", "a", "b")},
		{attr("cn", "a"), attr("sn", "a")},
		{attr("cn", "a"), attr("sn", "b")},
		{attr("cn", "b"), attr("sn", "a")},
		{attr("cn", "a"), attr("uid", "a")},
		{attr("cn", "a", "b"), attr("sn", "a")},
		{attr("cn", "a"), attr("sn", "a", "b")},
		{attr("cn", "a"), attr("sn", "a"), attr("uid", "a")},
		{attr("userPassword", "")},
		{attr("userPassword", "", "a")},
		{attr("userPassword", "a")},
		{attr("userPassword", "\x00")},
	}
	for i, a := range lists {
		for j, b := range lists {
			if got := attrs.Same(a, made(t, b...)); got != (i == j) {
				t.Errorf("Same of %q and %q: %v", a, b, got)
			}
		}
	}
	if !attrs.Same(nil, []attrs.Attr{}) || !attrs.Same([]attrs.Attr{}, nil) {
		t.Error("empty lists")
	}
}

// Rule 1: the functions return also for lists that are not normalized.
func TestOtherLists(t *testing.T) {
	lists := [][]attrs.Attr{
		{{}},
		{attr("x", "a")},
		{attr("cn")},
		{attr("CN", "a")},
		{attr("cn", "b", "a", "B", "\xff", "")},
		{attr("cn", "a"), attr("cn", "b")},
		{attr("sn", "a"), attr("cn", "b")},
		{attr("dc", "a", "b")},
		{attr("cn", numbers(1, 1000)...)},
		slices.Concat(every(false), every(true)),
		make([]attrs.Attr, 1000),
	}
	changes := [][]attrs.Change{nil, {{}}, {add("cn", "a", "c")}, {del("cn", "a")}, {del("cn")}, {replace("dc")}, {replace("cn", "x")}, {add("dc", "x")}, {{Kind: 9, Type: "cn"}}}
	for _, l := range lists {
		for _, c := range changes {
			if got, e := attrs.Apply(l, c); e != api.OK && len(got) != 0 {
				t.Errorf("Apply of %q and %v: %q %d", l, c, got, e)
			}
		}
		wantMake(t, l)
		for _, kind := range []string{"cn", "dc", "x", ""} {
			attrs.Values(l, kind)
			attrs.Has(l, kind, "a")
			attrs.Has(l, kind, "\xff")
		}
		attrs.Names(l)
		for _, m := range lists {
			attrs.Same(l, m)
		}
	}
}

// roomy returns a list with more behind it and behind its values, and all of that.
func roomy(l []attrs.Attr) (some, all []attrs.Attr) {
	for _, x := range l {
		values := append(slices.Clone(x.Values), "behind", "it")
		all = append(all, attr(x.Name, values[:len(x.Values)]...))
	}
	all = append(all, attr("behind", "it"))
	return all[:len(l)], all
}

// copied returns a copy of l, with what is behind its values.
func copied(l []attrs.Attr) []attrs.Attr {
	var out []attrs.Attr
	for _, x := range l {
		out = append(out, attr(x.Name, slices.Clone(x.Values[:cap(x.Values)])...))
	}
	return out
}

// Rule 4: arguments are not modified, nor what is behind them.
func TestArgumentsStay(t *testing.T) {
	l, all := roomy([]attrs.Attr{attr("SN", "b", "a"), attr("CN", "d", "c")})
	before := copied(all)
	made(t, l...)
	if !equal(copied(all), before) {
		t.Errorf("%q", all)
	}
	l, all = roomy(made(t, attr("cn", "a", "b"), attr("dc", "x"), attr("sn", "c")))
	before = copied(all)
	room := []string{"Z", "y", "behind"}
	changes := []attrs.Change{add("cn", room[:2]...), add("uid", room[:2]...), del("cn", "a"), del("cn", "y"), replace("dc", "X"), del("sn"), add("behind")}
	if _, e := attrs.Apply(l, changes[:6]); e != api.OK {
		t.Error(e)
	}
	if _, e := attrs.Apply(l, changes); e != api.ErrNone {
		t.Error(e)
	}
	attrs.Values(l, "cn")
	attrs.Has(l, "cn", "B")
	attrs.Names(l)
	attrs.Same(l, l)
	if !equal(copied(all), before) || !slices.Equal(room, []string{"Z", "y", "behind"}) || changes[6].Type != "behind" || changes[1].Type != "uid" {
		t.Errorf("%q %q %v", all, room, changes)
	}
}

// share tells whether two strings have memory in common.
func share(a, b string) bool {
	from, to := uintptr(unsafe.Pointer(unsafe.StringData(a))), uintptr(unsafe.Pointer(unsafe.StringData(b)))
	return a != "" && b != "" && from < to+uintptr(len(b)) && to < from+uintptr(len(a))
}

// texts returns all strings of l.
func texts(l []attrs.Attr) []string {
	var out []string
	for _, x := range l {
		out = append(append(out, x.Name), x.Values...)
	}
	return out
}

// wantNew holds that no text of got is in the memory of one of l.
func wantNew(t *testing.T, what string, got []string, l []string) {
	t.Helper()
	for _, a := range got {
		for _, b := range l {
			if share(a, b) {
				t.Errorf("%s: %q", what, a)
			}
		}
	}
}

// Rule 4: results are new memory.
func TestResultsAreNew(t *testing.T) {
	l := []attrs.Attr{attr(strings.Clone("cn"), strings.Repeat("foo", 2), "bar"), attr(strings.Clone("sn"), "x", strings.Repeat("y", 3))}
	n, c := made(t, l...), []attrs.Change{add("sn", "new"), add("uid", "one", "other"), del("cn", "bar")}
	n[0].Name, n[1].Name = strings.Clone("cn"), strings.Clone("sn")
	m, e := attrs.Apply(n, c)
	if e != api.OK {
		t.Fatal(e)
	}
	wantNew(t, "Make", texts(n), texts(l))
	wantNew(t, "Apply", texts(m), texts(n))
	for _, x := range c {
		wantNew(t, "Apply", texts(m), x.Values)
	}
	wantNew(t, "Values", attrs.Values(n, "cn"), texts(n))
	wantNew(t, "Names", attrs.Names(n), texts(n))
	wantApart(t, n, l)
	wantApart(t, m, n)
}

// wantApart holds that no list of got is one of l, or in the room behind another one of got.
func wantApart(t *testing.T, got, l []attrs.Attr) {
	t.Helper()
	before, gotBefore := copied(l), copied(got)
	for _, x := range got {
		room := x.Values[len(x.Values):cap(x.Values)]
		for i := range room {
			room[i] = "room"
		}
	}
	for i, x := range got {
		if !slices.Equal(x.Values, gotBefore[i].Values[:len(x.Values)]) {
			t.Errorf("%q in the room of another list", x.Values)
		}
		for j := range x.Values {
			x.Values[j] = "other"
		}
		got[i].Name = "other"
	}
	if !equal(copied(l), before) {
		t.Errorf("%q instead of %q", l, before)
	}
}

// Rule 4: the lists of Values and Names are those of no list.
func TestListsAreNew(t *testing.T) {
	l := made(t, attr("cn", "a", "b"), attr("sn", "c"))
	before := copied(l)
	for range 2 {
		values, names := attrs.Values(l, "cn"), attrs.Names(l)
		if !slices.Equal(values, []string{"a", "b"}) || !slices.Equal(names, []string{"cn", "sn"}) {
			t.Error(values, names)
		}
		for _, x := range [][]string{values, names} {
			for i := range x[:cap(x)] {
				x[:cap(x)][i] = "other"
			}
		}
		if !equal(copied(l), before) {
			t.Errorf("%q", l)
		}
	}
}
