package entry_test

import (
	"math/rand"
	"slices"
	"testing"

	"peerage/api"
	"peerage/attrs"
	"peerage/dn"
	"peerage/entry"
)

// pick returns one of l.
func pick(r *rand.Rand, l ...string) string {
	return l[r.Intn(len(l))]
}

// listByChance returns attributes of a person, a group or an organization, now and then with something wrong.
func listByChance(r *rand.Rand) []attrs.Attr {
	some := func(l ...string) []string {
		r.Shuffle(len(l), func(i, j int) { l[i], l[j] = l[j], l[i] })
		return l[:1+r.Intn(len(l))]
	}
	var l []attrs.Attr
	switch r.Intn(3) {
	case 0:
		l = []attrs.Attr{attr("objectClass", some("person", "top")...), attr("sn", some("a", " B", "c")...), attr("cn", some("A", "b", "c")...)}
	case 1:
		l = []attrs.Attr{attr("2.5.4.0", "GROUP"), attr(pick(r, "cn", "commonName"), some("a", "B", "c")...), attr("member", some("o=x", "CN=a,o=x", "cn=b", "sn=A+cn=a,o=x", "")...)}
	case 2:
		l = []attrs.Attr{attr("objectClass", "organization"), attr("o", some("a", "b", "x")...), attr("telephoneNumber", some("1", "2 3")...)}
	}
	if r.Intn(2) == 0 {
		l = append(l, attr("description", some("a", "b", "c\x00")...))
	}
	if r.Intn(15) == 0 {
		l = append(l, attr(pick(r, "x", "cn", "o", "dc", "objectClass"), some("a", "", "\xff")...))
	}
	if r.Intn(15) == 0 {
		l = l[1:]
	}
	r.Shuffle(len(l), func(i, j int) { l[i], l[j] = l[j], l[i] })
	return l
}

// nameByChance returns a name whose lowest level is often of the attributes l.
func nameByChance(r *rand.Rand, l []attrs.Attr) string {
	if r.Intn(30) == 0 {
		return pick(r, "", " ", "x", "x=y", "cn=a,", "cn=a+cn=b")
	}
	level := pick(r, "cn=a", "o=a", "sn=b", "description=C")
	if len(l) > 0 && r.Intn(8) > 0 {
		a, b := l[r.Intn(len(l))], l[r.Intn(len(l))]
		level = a.Name + "=" + a.Values[0]
		if r.Intn(3) == 0 {
			level += "+" + b.Name + " = " + b.Values[len(b.Values)-1]
		}
	}
	return level + pick(r, "", ",o=x", " , O = X", ";ou=b;o=x")
}

// P13.2, P13.3, P13.5: entries by chance.
func TestByChance(t *testing.T) {
	r := rand.New(rand.NewSource(1))
	seen := map[api.Errno]int{}
	for range 8000 {
		l := listByChance(r)
		name := nameByChance(r, l)
		key, _ := dn.Of(name)
		if r.Intn(30) == 0 {
			key = pick(r, "", "cn=a", name)
		}
		version := r.Intn(1 << r.Intn(40))
		if r.Intn(30) == 0 {
			version = -1 - version
		}
		seen[wantNew(t, key, name, version, l)]++
		wantPut(t, entry.Entry{Key: key, Name: name, Version: version, Attrs: l})
		if m, bad := attrs.Make(l); bad == api.OK {
			wantPut(t, entry.Entry{Key: key, Name: name, Version: version, Attrs: m})
		}
		if t.Failed() {
			return
		}
	}
	for _, e := range []api.Errno{api.OK, api.ErrArg, api.ErrNone, api.ErrThere, api.ErrForm, api.ErrHeld, api.ErrStale} {
		if seen[e] < 20 {
			t.Errorf("%d: %d", e, seen[e])
		}
	}
	if seen[api.OK] < 3000 {
		t.Error(seen)
	}
}

// P13.3: the bytes of entries, changed by chance.
func TestReadByChance(t *testing.T) {
	r := rand.New(rand.NewSource(2))
	accepted := 0
	for range 30000 {
		l := listByChance(r)
		name := nameByChance(r, l)
		key, _ := dn.Of(name)
		e, bad := entry.New(key, name, r.Intn(1000), l)
		if bad != api.OK {
			continue
		}
		b, _ := entry.Put(e)
		for range r.Intn(3) {
			i, j := r.Intn(len(b)+1), r.Intn(len(b)+1)
			switch r.Intn(4) {
			case 0:
				b = slices.Concat(b[:i], []byte{byte(r.Intn(256))}, b[i:])
			case 1:
				b = slices.Concat(b[:i], b[min(i+1, len(b)):])
			case 2:
				b = slices.Concat(b[:min(i, j)], b[max(i, j):])
			case 3:
				b = slices.Clone(b)
				b[min(i, len(b)-1)] ^= 1 << r.Intn(8)
			}
			if len(b) == 0 {
				break
			}
		}
		if wantRead(t, b) {
			accepted++
		}
		if t.Failed() {
			return
		}
	}
	if accepted < 3000 {
		t.Error(accepted)
	}
}

// P13.5: of two entries that differ, the bytes differ.
func TestBytesDiffer(t *testing.T) {
	r := rand.New(rand.NewSource(3))
	var entries []entry.Entry
	for range 300 {
		l := listByChance(r)
		name := nameByChance(r, l)
		key, _ := dn.Of(name)
		if e, bad := entry.New(key, name, r.Intn(2), l); bad == api.OK {
			entries = append(entries, e)
		}
	}
	for _, a := range entries {
		for _, b := range entries {
			x, _ := entry.Put(a)
			y, _ := entry.Put(b)
			if got := entry.Same(a, b); got != equal(a, b) || got != slices.Equal(x, y) {
				t.Errorf("Same of %#v and %#v: %v", a, b, got)
			}
		}
	}
}

// Rule 5: the same arguments have the same results.
func TestRepeatable(t *testing.T) {
	l := []attrs.Attr{attr("objectClass", "person", "top", "inetOrgPerson"), attr("cn", values(30, 4)...), attr("sn", "a", "b", "c"), attr("uid", "u"), attr("mail", "m"), attr("givenName", "g")}
	for range 40 {
		wantNew(t, "sn=a", "sn=a", 1, l)
		wantNew(t, "sn=d", "sn=d", 1, l)
	}
}
