package view_test

import (
	"fmt"
	"math"
	"slices"
	"strings"
	"testing"
	"unsafe"

	"peerage/acl"
	"peerage/api"
	"peerage/attrs"
	"peerage/entry"
	"peerage/schema"
	"peerage/view"
)

// Rule and Asker are those of acl; the tests have many of them.
type (
	Rule  = acl.Rule
	Asker = acl.Asker
)

// The askers of the tests.
var (
	nobody = Asker{}
	me     = Asker{Key: "cn=a,o=x", Groups: []string{"cn=g,o=x"}}
	other  = Asker{Key: "cn=b,o=x"}
)

// rights are all that there are, and notRights are numbers that are none.
var (
	rights    = []int{acl.Read, acl.Search, acl.Compare, acl.Write, acl.Add, acl.Delete, acl.Rename}
	notRights = []int{0, 3, 6, 7, 127, 128, 256, 1 << 32, 1<<32 + 1, math.MaxInt, -1, -2, -128, math.MinInt}
)

// allow returns the rule that everybody has these rights to an attribute, or to everything, of all entries.
func allow(attr string, rights int) Rule {
	return Rule{Allow: true, Attr: attr, Rights: rights}
}

// deny returns the rule that nobody has these rights to an attribute, or to everything, of all entries.
func deny(attr string, rights int) Rule {
	return Rule{Attr: attr, Rights: rights}
}

// parsed returns the rules of these lines.
func parsed(t *testing.T, lines ...string) []Rule {
	t.Helper()
	l, n, e := acl.Parse(strings.Join(lines, "\n"))
	if e != api.OK {
		t.Fatal(n, e)
	}
	return l
}

// attr returns an attribute.
func attr(name string, values ...string) attrs.Attr {
	return attrs.Attr{Name: name, Values: values}
}

// sample returns an entry of a person. The order of its attributes is that of their names.
func sample() entry.Entry {
	e, bad := entry.New("cn=a,o=x", "CN=A, o=x", 7, []attrs.Attr{
		attr("objectClass", "person", "login"), attr("cn", "A", "b"), attr("sn", "S"), attr("userPassword", "p", "q"), attr("description", "d"), attr("uid", "u"), attr("enabled", "TRUE"),
	})
	if bad != api.OK {
		panic(bad)
	}
	return e
}

// equal tells whether two entries are the same in all parts.
func equal(a, b entry.Entry) bool {
	return a.Key == b.Key && a.Name == b.Name && a.Version == b.Version && attrs.Same(a.Attrs, b.Attrs)
}

// wantMay holds May against what is wanted and against the model.
func wantMay(t *testing.T, want bool, l []Rule, a Asker, key string, rights ...int) {
	t.Helper()
	if got := view.May(l, a, key, rights...); got != want {
		t.Errorf("May of %+v, %q, %q, %d: %v", l, a, key, rights, got)
	}
	if model := modelMay(l, a, key, rights); model != want {
		t.Errorf("the model of %+v, %q, %q, %d: %v", l, a, key, rights, model)
	}
}

// wantHidden holds Hidden against what is wanted and against the model.
func wantHidden(t *testing.T, l []Rule, a Asker, key string, types []string, want ...string) {
	t.Helper()
	if got := view.Hidden(l, a, key, types); !slices.Equal(got, want) {
		t.Errorf("Hidden of %+v, %q, %q, %q: %q instead of %q", l, a, key, types, got, want)
	}
	if model := modelHidden(l, a, key, types); !slices.Equal(model, want) {
		t.Errorf("the model of %+v, %q, %q, %q: %q instead of %q", l, a, key, types, model, want)
	}
}

// wantWants holds Wants against what is wanted and against the model.
func wantWants(t *testing.T, want bool, name string, wanted ...string) {
	t.Helper()
	if got := view.Wants(wanted, name); got != want {
		t.Errorf("Wants of %.300q, %q: %v", wanted, name, got)
	}
	if model := modelWants(wanted, name); model != want {
		t.Errorf("the model of %.300q, %q: %v", wanted, name, model)
	}
}

// wantShown holds Shown, bare and not, against the model, and the names of what is shown against those that are wanted.
func wantShown(t *testing.T, l []Rule, a Asker, e entry.Entry, wanted []string, names ...string) {
	t.Helper()
	for _, bare := range []bool{false, true} {
		got := view.Shown(l, a, e, wanted, bare)
		if model := modelShown(l, a, e, wanted, bare); !attrs.Same(got, model) {
			t.Errorf("Shown of %+v, %q, %+v, %q, %v: %q instead of %q", l, a, e, wanted, bare, got, model)
		}
		if !slices.Equal(attrs.Names(got), names) {
			t.Errorf("Shown of %+v, %q, %+v, %q, %v: %q instead of %q", l, a, e, wanted, bare, got, names)
		}
		for _, x := range got {
			if bare && len(x.Values) != 0 || !bare && !slices.Equal(x.Values, attrs.Values(e.Attrs, x.Name)) {
				t.Errorf("Shown of %+v, %v: %q", e, bare, x)
			}
		}
	}
}

// wantSeen holds Seen against the model, and the names of the attributes that are seen against those that are wanted.
func wantSeen(t *testing.T, l []Rule, a Asker, e entry.Entry, names ...string) {
	t.Helper()
	got, ok := view.Seen(l, a, e)
	model, modelOk := modelSeen(l, a, e)
	if !ok || !modelOk || !equal(got, model) {
		t.Errorf("Seen of %+v, %q, %+v: %+v %v instead of %+v %v", l, a, e, got, ok, model, modelOk)
	}
	if got.Key != e.Key || got.Name != e.Name || got.Version != e.Version || !slices.Equal(attrs.Names(got.Attrs), names) {
		t.Errorf("Seen of %+v, %q, %+v: %+v instead of %q", l, a, e, got, names)
	}
	for _, x := range got.Attrs {
		if !slices.Equal(x.Values, attrs.Values(e.Attrs, x.Name)) {
			t.Errorf("Seen of %+v: %q", e, x)
		}
	}
}

// wantUnseen holds that nothing is seen.
func wantUnseen(t *testing.T, l []Rule, a Asker, e entry.Entry) {
	t.Helper()
	got, ok := view.Seen(l, a, e)
	if _, modelOk := modelSeen(l, a, e); ok || modelOk || !equal(got, entry.Entry{}) {
		t.Errorf("Seen of %+v, %q, %+v: %+v %v, in the model %v", l, a, e, got, ok, modelOk)
	}
}

// P18.1: each right to the entry itself, and all choices of rights.
func TestMay(t *testing.T) {
	const key = "cn=a,o=x"
	for permitted := range 128 {
		var l []Rule
		if permitted > 0 {
			l = append(l, allow("", permitted))
		}
		for asked := range 128 {
			var list []int
			for _, right := range rights {
				if asked&right != 0 {
					list = append(list, right)
				}
			}
			want := asked&^permitted == 0
			wantMay(t, want, l, nobody, key, list...)
			slices.Reverse(list)
			wantMay(t, want, l, me, key, list...)
			wantMay(t, want, l, other, key, append(list, list...)...)
			for _, n := range notRights {
				wantMay(t, false, l, me, key, append(list, n)...)
				wantMay(t, false, l, me, key, append([]int{n}, list...)...)
			}
			if t.Failed() {
				return
			}
		}
	}
}

// P18.1: no rights are always permitted.
func TestMayNothing(t *testing.T) {
	for _, l := range [][]Rule{nil, {}, {deny("", 127)}, {{}}, {allow("", 127)}} {
		for _, a := range []Asker{nobody, me, other} {
			for _, key := range []string{"", "o=x", "x", "\xff"} {
				wantMay(t, true, l, a, key)
				wantMay(t, true, l, a, key, []int{}...)
			}
		}
	}
}

// P18.1: rules about an attribute are not about the entry itself, and who asks for what counts.
func TestMayRules(t *testing.T) {
	const r, s, w = acl.Read, acl.Search, acl.Write
	for _, x := range schema.Attributes() {
		wantMay(t, false, []Rule{allow(x.Name, 127)}, me, "o=x", r)
		wantMay(t, true, []Rule{deny(x.Name, 127), allow("", r)}, me, "o=x", r)
	}
	l := parsed(t, "deny|anonymous||*|s", "allow|self||*|w", "allow|group=cn=g,o=x|o=y|*|rsw", "deny|anyone|o=y|*|rw", "allow|anyone||*|rs")
	wantMay(t, true, l, me, me.Key, r, s, w)
	wantMay(t, false, l, me, other.Key, r, s, w)
	wantMay(t, true, l, me, other.Key, r, s)
	wantMay(t, true, l, me, "cn=c,o=y", w, s, r)
	wantMay(t, false, l, other, "cn=c,o=y", r, s)
	wantMay(t, true, l, other, "cn=c,o=y", s)
	wantMay(t, true, l, nobody, "o=x", r)
	wantMay(t, false, l, nobody, "o=x", r, s)
	wantMay(t, false, l, nobody, "o=x", s)
	wantMay(t, true, l, me, "", r, s)
	wantMay(t, false, l, me, "", acl.Add)
}

// P18.1: the attributes that may not be searched by, in the order and as often as they are given.
func TestHidden(t *testing.T) {
	const key = "cn=a,o=x"
	types := []string{"sn", "cn", "userPassword", "cn", "sn"}
	l := []Rule{deny("userPassword", acl.Search), allow("cn", 127), allow("sn", 127&^acl.Search)}
	wantHidden(t, l, me, key, types, "sn", "userPassword", "sn")
	wantHidden(t, l, me, key, []string{"cn"})
	wantHidden(t, l, me, key, []string{"description", "cn", "ou"}, "description", "ou")
	wantHidden(t, append(l, allow("", acl.Search)), me, key, types, "userPassword")
	wantHidden(t, append(l, allow("", 127&^acl.Search)), me, key, types, "sn", "userPassword", "sn")
	wantHidden(t, append([]Rule{deny("", acl.Search)}, l...), me, key, types, types...)
	for _, l := range [][]Rule{nil, {}, {{}}} {
		wantHidden(t, l, me, key, types, types...)
		wantHidden(t, l, me, key, nil)
		wantHidden(t, l, me, key, []string{})
	}
	// Each right alone.
	for _, right := range rights {
		want := types
		if right == acl.Search {
			want = nil
		}
		wantHidden(t, []Rule{allow("", right)}, me, key, types, want...)
	}
	// Who asks, and of which entry.
	l = parsed(t, "allow|self||sn|s", "allow|known|o=y|*|s", "deny|anonymous||*|s", "allow|anyone||cn|s")
	wantHidden(t, l, me, key, types, "userPassword")
	wantHidden(t, l, other, key, types, "sn", "userPassword", "sn")
	wantHidden(t, l, nobody, key, types, types...)
	wantHidden(t, l, me, "cn=a,o=y", types)
	wantHidden(t, l, me, "", types, "sn", "userPassword", "sn")
}

// P18.1: each attribute, and strings that are the Name of none: acl.Decide takes these as they are, and the empty one for the entry itself.
func TestHiddenNames(t *testing.T) {
	var all []string
	for _, a := range schema.Attributes() {
		all = append(all, a.Name)
	}
	odd := []string{"", "CN", "commonName", "2.5.4.3", "x", "*", "cn;a", "\xff", "1.1"}
	types := append(slices.Clone(all), odd...)
	for _, name := range all {
		wantHidden(t, []Rule{deny(name, acl.Search), allow("", acl.Search)}, me, "o=x", types, name)
		rest := slices.DeleteFunc(slices.Clone(types), func(s string) bool { return s == name })
		wantHidden(t, []Rule{allow(name, acl.Search)}, me, "o=x", types, rest...)
	}
	wantHidden(t, []Rule{allow("", acl.Search)}, me, "o=x", types)
	wantHidden(t, []Rule{allow("", acl.Read)}, me, "o=x", types, types...)
}

// P18.2: the example of the chapter, and lists of each kind.
func TestWants(t *testing.T) {
	wantWants(t, true, "cn", "CN")
	wantWants(t, true, "cn", "*")
	wantWants(t, false, "cn", "1.1")
	wantWants(t, true, "cn")
	wantWants(t, true, "cn", []string{}...)
	wantWants(t, true, "cn", "sn", "cn")
	wantWants(t, true, "cn", "cn", "sn")
	wantWants(t, true, "cn", "cn", "cn")
	wantWants(t, false, "cn", "sn", "ou")
	wantWants(t, true, "cn", "sn", "*")
	wantWants(t, true, "cn", "*", "1.1")
	wantWants(t, true, "cn", "1.1", "*")
	wantWants(t, true, "cn", "1.1", "cn")
	wantWants(t, false, "cn", "1.1", "sn")
	wantWants(t, false, "cn", "1.1", "1.1")
	wantWants(t, true, "cn", "x", "", "cn;a", "2.5.4.3")
	wantWants(t, true, "cn", "cn;a", "cn")
	wantWants(t, false, "cn", slices.Repeat([]string{"sn"}, 1000)...)
	wantWants(t, true, "cn", append(slices.Repeat([]string{"sn"}, 1000), "cn")...)
}

// writings returns the names of an attribute in several letters.
func writings(a schema.Attribute) []string {
	l := []string{a.Name, strings.ToLower(a.Name), strings.ToUpper(a.Name), a.Oid}
	if a.Alias != "" {
		l = append(l, a.Alias, strings.ToLower(a.Alias), strings.ToUpper(a.Alias))
	}
	return l
}

// P18.2: each attribute by each of its names, with options and without.
func TestWantsEach(t *testing.T) {
	for _, a := range schema.Attributes() {
		wantWants(t, true, a.Name)
		wantWants(t, true, a.Name, "*")
		wantWants(t, false, a.Name, "1.1")
		for _, b := range schema.Attributes() {
			for _, s := range writings(b) {
				is := a.Name == b.Name
				wantWants(t, is, a.Name, s)
				wantWants(t, is, a.Name, "1.1", s, "x")
				wantWants(t, true, a.Name, s, "*")
				for _, more := range []string{";a", ";lang-de", ";binary;a", ";", ";;", ".1", "x", " ", "*", "\x00", ";*", ";a;"} {
					wantWants(t, false, a.Name, s+more)
				}
				for _, before := range []string{" ", ";", "x", "0", "*", "-", ".", "\x00"} {
					wantWants(t, false, a.Name, before+s)
				}
			}
		}
	}
}

// P18.2: strings that no attribute is found for.
func TestWantsNone(t *testing.T) {
	long := strings.Repeat("a", 70)
	for _, s := range []string{
		"", " ", "**", " *", "* ", "*;a", "*cn", "+", "1", "1.1", "1.1;a", "0.0", "2.5.4", "2.5.4.03", "2.5.4.3.0", "person", "top", "2.5.6.6", "1.3.6.1.4.1.99999.3.2", "-", "c n", "cn,sn", "cn sn", "cn\n", "(cn=*)", "\xff", "\u0441n", "\u017fn", "cn\u0000", "oid.2.5.4.3", long, long + ";cn", "cn;" + long, strings.Repeat("cn", 100000),
	} {
		for _, a := range schema.Attributes() {
			wantWants(t, false, a.Name, s)
			wantWants(t, false, a.Name, s, s, "1.1")
			wantWants(t, true, a.Name, s, "*")
			wantWants(t, true, a.Name, s, a.Name)
		}
	}
}

// P18.3: what is wanted and what may be read, in order, with values and without.
func TestShown(t *testing.T) {
	e := sample()
	all := attrs.Names(e.Attrs)
	if !slices.Equal(all, []string{"cn", "description", "enabled", "objectClass", "sn", "uid", "userPassword"}) {
		t.Fatal(all)
	}
	everything := []Rule{allow("", acl.Read)}
	for _, wanted := range [][]string{nil, {}, {"*"}, {"1.1", "*"}, {"sn", "*"}} {
		wantShown(t, everything, me, e, wanted, all...)
		wantShown(t, []Rule{allow("sn", 127), allow("cn", acl.Read)}, me, e, wanted, "cn", "sn")
		wantShown(t, append([]Rule{deny("userPassword", acl.Read), deny("cn", 127)}, everything...), me, e, wanted, "description", "enabled", "objectClass", "sn", "uid")
		wantShown(t, nil, me, e, wanted)
		wantShown(t, []Rule{deny("", 127), allow("", 127)}, me, e, wanted)
	}
	for _, wanted := range [][]string{{"1.1"}, {""}, {"x"}, {"cn;a", "ou"}, {"telephoneNumber"}} {
		wantShown(t, everything, me, e, wanted)
	}
	wantShown(t, everything, me, e, []string{"userPassword", "SN", "2.5.4.3", "commonName", "sn", "x", "1.1"}, "cn", "sn", "userPassword")
	wantShown(t, []Rule{allow("sn", acl.Read)}, me, e, []string{"userPassword", "SN", "cn"}, "sn")
	wantShown(t, everything, me, entry.Entry{Key: "o=x"}, nil)
	wantShown(t, everything, me, entry.Entry{}, []string{"*"})
}

// P18.3: the right to Read alone counts, to the attribute and not to the entry itself, and who asks for which entry.
func TestShownRules(t *testing.T) {
	e := sample()
	all := attrs.Names(e.Attrs)
	for _, right := range rights {
		if right == acl.Read {
			continue
		}
		wantShown(t, []Rule{allow("", right)}, me, e, nil)
		wantShown(t, []Rule{allow("", 127&^acl.Read)}, me, e, nil)
		wantShown(t, []Rule{deny("", right), allow("", 127)}, me, e, nil, all...)
		wantShown(t, []Rule{allow("cn", right), allow("sn", acl.Read)}, me, e, nil, "sn")
	}
	l := parsed(t, "deny|anyone||userPassword|rs", "allow|anyone||cn|rs", "allow|self||*|rw", "allow|group=cn=g,o=x|o=y|*|r", "allow|known|ou=a,o=x|sn|r")
	wantShown(t, l, nobody, e, nil, "cn")
	wantShown(t, l, other, e, nil, "cn")
	wantShown(t, l, me, e, nil, "cn", "description", "enabled", "objectClass", "sn", "uid")
	e.Key = "cn=a,o=y"
	wantShown(t, l, me, e, nil, "cn", "description", "enabled", "objectClass", "sn", "uid")
	wantShown(t, l, other, e, nil, "cn")
	e.Key = "cn=a,ou=a,o=x"
	wantShown(t, l, me, e, nil, "cn", "sn")
	wantShown(t, l, other, e, nil, "cn", "sn")
	wantShown(t, l, nobody, e, nil, "cn")
	e.Key = ""
	wantShown(t, l, me, e, nil, "cn")
}

// P18.4: whether an entry is seen at all depends on the rights Read and Search to the entry itself.
func TestSeen(t *testing.T) {
	e := sample()
	all := attrs.Names(e.Attrs)
	for permitted := 1; permitted < 128; permitted++ {
		l := []Rule{allow("", permitted)}
		if permitted&(acl.Read|acl.Search) != 0 {
			wantSeen(t, l, me, e, all...)
			wantSeen(t, l, nobody, e, all...)
		} else {
			wantUnseen(t, l, me, e)
			wantUnseen(t, l, nobody, e)
		}
	}
	for _, l := range [][]Rule{nil, {}, {{}}, {deny("", 127)}, {deny("", acl.Read|acl.Search), allow("", 127)}} {
		wantUnseen(t, l, me, e)
		wantUnseen(t, l, me, entry.Entry{})
	}
	// Rights to all attributes are none to the entry.
	var each []Rule
	for _, a := range schema.Attributes() {
		each = append(each, allow(a.Name, 127))
	}
	wantUnseen(t, each, me, e)
	wantSeen(t, append(each, allow("", acl.Search)), me, e, all...)
	wantSeen(t, []Rule{deny("", acl.Read), allow("", 127)}, me, e, all...)
	wantSeen(t, []Rule{deny("", acl.Search), allow("", 127)}, me, e, all...)
	wantSeen(t, []Rule{allow("", 127)}, me, entry.Entry{Key: "o=x", Name: "O=X", Version: 1 << 40})
	wantSeen(t, []Rule{allow("", 127)}, me, entry.Entry{})
}

// P18.4: an attribute is seen if it may be read, searched by or compared.
func TestSeenAttributes(t *testing.T) {
	e := sample()
	all := attrs.Names(e.Attrs)
	const enough = acl.Read | acl.Search | acl.Compare
	for _, name := range all {
		without := slices.DeleteFunc(slices.Clone(all), func(s string) bool { return s == name })
		for permitted := 1; permitted < 128; permitted++ {
			l := []Rule{allow(name, permitted), deny(name, 127), allow("", acl.Read)}
			want := all
			if permitted&enough == 0 {
				want = without
			}
			wantSeen(t, l, me, e, want...)
		}
		wantSeen(t, []Rule{deny(name, enough), allow("", 127)}, me, e, without...)
		wantSeen(t, []Rule{deny(name, acl.Read|acl.Search), allow("", 127)}, me, e, all...)
		// The entry alone, with one attribute or with none.
		none := []Rule{allow(name, acl.Compare)}
		for _, a := range schema.Attributes() {
			none = append(none, deny(a.Name, 127))
		}
		wantSeen(t, append(none, allow("", acl.Search)), me, e, name)
		wantSeen(t, append(none[1:], allow("", acl.Search)), me, e)
		wantUnseen(t, none, me, e)
	}
	l := parsed(t, "deny|anyone||userPassword|rsc", "allow|self||*|rw", "allow|known||description|c", "deny|anonymous||cn|rsc", "allow|anyone||cn|s", "deny|anyone||description|rsc", "deny|anonymous||sn|rsc", "allow|anyone|o=x|*|s")
	wantSeen(t, l, me, e, "cn", "description", "enabled", "objectClass", "sn", "uid")
	wantSeen(t, l, other, e, "cn", "description", "enabled", "objectClass", "sn", "uid")
	wantSeen(t, l, nobody, e, "enabled", "objectClass", "uid")
	e.Key = "cn=a,o=y"
	wantUnseen(t, l, me, e)
}

// wantAgreement holds P18.5: what is shown of what is seen is what is shown, and all of it may be read.
func wantAgreement(t *testing.T, l []Rule, a Asker, e entry.Entry, wanted []string) {
	t.Helper()
	seen, ok := view.Seen(l, a, e)
	for _, bare := range []bool{false, true} {
		shown := view.Shown(l, a, e, wanted, bare)
		if again := view.Shown(l, a, seen, wanted, bare); ok && !attrs.Same(again, shown) {
			t.Errorf("Shown of what is seen of %+v by %q with %+v, %q: %q instead of %q", e, a, l, wanted, again, shown)
		}
		for _, x := range shown {
			if !acl.Decide(l, a, e.Key, x.Name, acl.Read) {
				t.Errorf("Shown of %+v by %q with %+v, %q: %q", e, a, l, wanted, x)
			}
		}
	}
	if again, isAgain := view.Seen(l, a, seen); ok && (!isAgain || !equal(again, seen)) {
		t.Errorf("Seen of what is seen of %+v by %q with %+v: %+v instead of %+v", e, a, l, again, seen)
	}
}

// P18.5: attributes that may be read, searched by or compared only.
func TestAgreement(t *testing.T) {
	e := sample()
	for _, entryRight := range rights {
		for _, name := range attrs.Names(e.Attrs) {
			for permitted := 1; permitted < 128; permitted++ {
				for _, rest := range []Rule{allow("", 127), deny("", 127), allow("", entryRight), {Allow: true, Who: acl.Self, Rights: 127}} {
					wantAgreement(t, []Rule{allow(name, permitted), deny(name, 127), rest}, me, e, nil)
					wantAgreement(t, []Rule{deny(name, permitted), rest}, other, e, []string{name, "cn", "UID"})
				}
			}
		}
		if t.Failed() {
			return
		}
	}
}

// share tells whether two strings have memory in common.
func share(a, b string) bool {
	from, to := uintptr(unsafe.Pointer(unsafe.StringData(a))), uintptr(unsafe.Pointer(unsafe.StringData(b)))
	return a != "" && b != "" && from < to+uintptr(len(b)) && to < from+uintptr(len(a))
}

// spoil overwrites lists of a result, and what is behind them.
func spoil(l []attrs.Attr) {
	l = l[:cap(l)]
	for i := range l {
		values := l[i].Values[:cap(l[i].Values)]
		for j := range values {
			values[j] = "changed"
		}
		l[i] = attrs.Attr{Name: "changed", Values: []string{"changed"}}
	}
}

// wantNew holds that the attributes of a result share no string with an entry.
func wantNew(t *testing.T, l []attrs.Attr, e entry.Entry) {
	t.Helper()
	for _, x := range l {
		for _, y := range e.Attrs {
			if share(x.Name, y.Name) {
				t.Errorf("%q", x.Name)
			}
			for _, v := range x.Values {
				if slices.ContainsFunc(y.Values, func(w string) bool { return share(v, w) }) {
					t.Errorf("%q", v)
				}
			}
		}
	}
}

// Rule 4: results are new memory, in all their lists.
func TestResultsAreNew(t *testing.T) {
	e, whole := sample(), sample()
	l := []Rule{allow("", 127)}
	for _, bare := range []bool{false, true} {
		shown := view.Shown(l, me, e, nil, bare)
		wantNew(t, shown, e)
		spoil(shown)
	}
	seen, ok := view.Seen(l, me, e)
	if !ok || share(seen.Key, e.Key) || share(seen.Name, e.Name) {
		t.Error(seen, ok)
	}
	wantNew(t, seen.Attrs, e)
	// Within one result, a list does not reach into the next one.
	for i, x := range seen.Attrs {
		next := slices.Clone(seen.Attrs[(i+1)%len(seen.Attrs)].Values)
		_ = append(x.Values, "more", "and more", "and more")
		if !slices.Equal(next, seen.Attrs[(i+1)%len(seen.Attrs)].Values) {
			t.Error(seen)
		}
	}
	spoil(seen.Attrs)
	if !equal(e, whole) {
		t.Errorf("%+v", e)
	}
	types := []string{strings.Clone("cn"), strings.Clone("sn")}
	hidden := view.Hidden(nil, me, e.Key, types)
	if len(hidden) != 2 || share(hidden[0], types[0]) || share(hidden[1], types[1]) {
		t.Errorf("%q", hidden)
	}
	hidden = hidden[:cap(hidden)]
	for i := range hidden {
		hidden[i] = "changed"
	}
	if !slices.Equal(types, []string{"cn", "sn"}) {
		t.Errorf("%q", types)
	}
}

// Rule 4: arguments are not modified, nor what is behind them. Rule 5: the same call has the same result.
func TestArgumentsStay(t *testing.T) {
	rules := []Rule{allow("sn", acl.Search), deny("cn", acl.Read), allow("", 127), deny("", 127)}
	names := []string{"sn", "CN", "*", "behind"}
	numbers := []int{acl.Read, acl.Search, acl.Write, 99}
	e := sample()
	e.Attrs = append(e.Attrs, attr("behind", "it"))
	for i := range e.Attrs {
		e.Attrs[i].Values = append(e.Attrs[i].Values, "behind")[:len(e.Attrs[i].Values)]
	}
	all := e.Attrs
	e.Attrs = e.Attrs[:len(all)-1]
	for range 5 {
		wantMay(t, true, rules[:3], me, e.Key, numbers[:3]...)
		wantHidden(t, rules[:1], me, e.Key, names[:2], "CN")
		wantWants(t, true, "cn", names[:2]...)
		wantShown(t, rules[:3], me, e, names[:2], "sn")
		wantShown(t, rules[:3], me, e, names[:3], attrs.Names(all[1:len(all)-1])...)
		wantSeen(t, rules[:3], me, e, attrs.Names(e.Attrs)...)
	}
	if !slices.Equal(rules, []Rule{allow("sn", acl.Search), deny("cn", acl.Read), allow("", 127), deny("", 127)}) || !slices.Equal(names, []string{"sn", "CN", "*", "behind"}) || !slices.Equal(numbers, []int{acl.Read, acl.Search, acl.Write, 99}) {
		t.Errorf("%+v %q %d", rules, names, numbers)
	}
	if !attrs.Same(e.Attrs, sample().Attrs) || !attrs.Same(all[len(e.Attrs):], []attrs.Attr{attr("behind", "it")}) {
		t.Errorf("%q", all)
	}
	for _, x := range all {
		if behind := x.Values[:len(x.Values)+1]; behind[len(x.Values)] != "behind" {
			t.Errorf("%q", behind)
		}
	}
}

// Rule 1: the functions return for whatever they are given.
func TestOddArguments(t *testing.T) {
	long := strings.Repeat(`cn=a\,,`, 100000)
	odd := []string{"", ",", "\\", "=", "cn=a,", ",o=x", "\xff", "\x00\n|", "*", "1.1", ";", long, strings.Repeat(";", 100000)}
	for _, s := range odd {
		e := entry.Entry{Key: s, Name: s, Version: -1, Attrs: []attrs.Attr{{}, attr(s), attr(s, s, s), attr("cn", s), attr("CN", s), attr("cn"), attr("sn", "a")}}
		a := Asker{Key: s, Groups: odd}
		for _, l := range [][]Rule{nil, {{}}, {allow("", 127)}, {{Allow: true, Who: acl.One, Subject: s, Base: s, Attr: s, Rights: 127}}, {allow("cn", 127), allow("", 1)}} {
			for _, wanted := range [][]string{nil, odd, {s}, {"cn", s}, {"\xff"}} {
				got := view.Shown(l, a, e, wanted, false)
				if want := modelShown(l, a, e, wanted, false); !attrs.Same(got, want) {
					t.Errorf("%.300q instead of %.300q", got, want)
				}
			}
			got, ok := view.Seen(l, a, e)
			if want, wantOk := modelSeen(l, a, e); !equal(got, want) || ok != wantOk {
				t.Errorf("%.300q %v instead of %.300q %v", fmt.Sprint(got), ok, fmt.Sprint(want), wantOk)
			}
			if got, want := view.Hidden(l, a, s, odd), modelHidden(l, a, s, odd); !slices.Equal(got, want) {
				t.Errorf("%.300q instead of %.300q", got, want)
			}
			if got := view.May(l, a, s, append(notRights, rights...)...); got {
				t.Errorf("%.300q", s)
			}
		}
	}
}
