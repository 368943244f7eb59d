package dn_test

import (
	"math/rand"
	"strings"
	"testing"

	"peerage/api"
	"peerage/dn"
	"peerage/escape"
	"peerage/schema"
)

// pieces are what values by chance are made of.
var pieces = []string{"a", "B", " ", "  ", ",", ";", "+", "=", "\\", "\"", "#", "<", ">", "\t", "\x01", "\x7f", "\u00e9", "\u00c9", "\u00a0", "\u00ad", "\U0001f600", "\\,", "\\2c", ",o=x", "61"}

// valueByChance returns a valid value of a syntax other than Name.
func valueByChance(r *rand.Rand, syntax int) string {
	pick := func(l ...string) string { return l[r.Intn(len(l))] }
	some := func() string {
		var out strings.Builder
		for range r.Intn(6) {
			out.WriteString(pick(pieces...))
		}
		return out.String()
	}
	switch syntax {
	case schema.Words, schema.Exact:
		return some() + "x" + some()
	case schema.Octets:
		return some() + pick("", "\xff", "\xc3", "\x00", " ") + some()
	case schema.Whole:
		return pick("0", "-0", "7", "007", "-007", "12345678901234567890")
	case schema.Truth:
		return pick("TRUE", "FALSE")
	case schema.Numeric:
		return pick("1", " 1 2 ", "12", "0001")
	case schema.Real:
		return pick("0000000000000000", "8000000000000000", "C000000000000000", "fff8000000000001")
	}
	return pick("person", "PERSON", "2.5.6.6", "x", "1.2.3")
}

// typeByChance returns one of the names of an attribute, with any letters small or great.
func typeByChance(r *rand.Rand, a schema.Attribute) string {
	names := []string{a.Name, a.Oid}
	if a.Alias != "" {
		names = append(names, a.Alias)
	}
	b := []byte(names[r.Intn(len(names))])
	for i, c := range b {
		if r.Intn(2) == 0 && (c >= 'a' && c <= 'z' || c >= 'A' && c <= 'Z') {
			b[i] = c ^ 32
		}
	}
	return string(b)
}

// nameByChance returns a name of at most most levels, each with different attributes and with valid values.
func nameByChance(r *rand.Rand, most int) dn.Name {
	var usable []schema.Attribute
	for _, a := range schema.Attributes() {
		if a.Syntax != schema.Name {
			usable = append(usable, a)
		}
	}
	var n dn.Name
	for range r.Intn(most + 1) {
		var l dn.Level
		for _, i := range r.Perm(len(usable))[:1+r.Intn(maxPairs)] {
			a := usable[i]
			l = append(l, pair(typeByChance(r, a), valueByChance(r, a.Syntax)))
		}
		n = append(n, l)
	}
	return n
}

// writtenByChance returns a value as it may stand in a name.
func writtenByChance(r *rand.Rand, v string) string {
	switch r.Intn(4) {
	case 0:
		if v != "" {
			return "#" + escape.Hex(v)
		}
	case 1:
		return escape.Put(v)
	}
	var out strings.Builder
	for i := range len(v) {
		switch c := v[i : i+1]; {
		case r.Intn(4) == 0:
			out.WriteString("\\" + strings.ToUpper(escape.Hex(c)))
		case strings.Contains("\"+,;<>=#\\ ", c):
			out.WriteString("\\" + c)
		default:
			out.WriteString(c)
		}
	}
	return out.String()
}

// textByChance returns one of the texts of a name.
func textByChance(r *rand.Rand, n dn.Name) string {
	blanks := func() string { return strings.Repeat(" ", r.Intn(2)*r.Intn(3)) }
	var out strings.Builder
	for i, l := range n {
		if i > 0 {
			out.WriteString([]string{",", ";"}[r.Intn(2)])
		}
		for j, p := range l {
			if j > 0 {
				out.WriteString("+")
			}
			out.WriteString(blanks() + p.Type + blanks() + "=" + blanks() + writtenByChance(r, p.Value) + blanks())
		}
	}
	return out.String()
}

// P11.1 to P11.6: names by chance, each of whose texts is parsed.
func TestByChance(t *testing.T) {
	r := rand.New(rand.NewSource(11))
	keys := 0
	for range 8000 {
		n := nameByChance(r, 4)
		s := textByChance(r, n)
		if len(s) <= maxBytes {
			wantName(t, s, n)
		}
		wantNormal(t, n)
		wantText(t, n)
		if k, e := dn.Normal(n); e == api.OK {
			keys++
			wantShuffled(t, r, n, k)
			wantOther(t, r, k)
		}
		if t.Failed() {
			return
		}
	}
	if keys < 6000 {
		t.Error(keys)
	}
}

// wantShuffled holds that the order of the pairs within levels does not count (P11.6).
func wantShuffled(t *testing.T, r *rand.Rand, n dn.Name, k string) {
	t.Helper()
	var m dn.Name
	for _, l := range n {
		var other dn.Level
		for _, i := range r.Perm(len(l)) {
			other = append(other, l[i])
		}
		m = append(m, other)
	}
	if got, e := dn.Normal(m); got != k || e != api.OK {
		t.Errorf("Normal of %q: %q %d instead of %q", m, got, e, k)
	}
}

// wantOther holds Under of a key and one of another name, in both orders, against the keys of the names above (P11.4).
func wantOther(t *testing.T, r *rand.Rand, k string) {
	t.Helper()
	m := nameByChance(r, 2)
	if at := strings.LastIndexByte(k, ','); at >= 0 && r.Intn(2) == 0 {
		// What follows a comma may be a name by itself, and is above the name if the comma separates levels.
		m, _ = dn.Parse(k[at+1:])
	}
	other, e := dn.Normal(m)
	if e != api.OK {
		return
	}
	for _, x := range [][2]string{{k, other}, {other, k}} {
		n, _ := modelParse(x[0])
		above, _ := modelKeys(n)
		want := false
		for _, a := range above {
			want = want || a == x[1]
		}
		if got := dn.Under(x[0], x[1]); got != want {
			t.Errorf("Under of %q and %q: %v", x[0], x[1], got)
		}
	}
}

// P11.1 and P11.3: one byte of a text is another, is missing, or is there twice.
func TestChangedByte(t *testing.T) {
	r := rand.New(rand.NewSource(12))
	const signs = "=+,;\\ #\"<>ao1.\xff"
	names := 0
	for range 8000 {
		s := textByChance(r, nameByChance(r, 3))
		if s == "" {
			continue
		}
		at := r.Intn(len(s))
		c := signs[r.Intn(len(signs))]
		for _, changed := range []string{s[:at] + s[at+1:], s[:at] + string([]byte{c}) + s[at:], s[:at] + string([]byte{c}) + s[at+1:], s[:at] + s[at:at+1] + s[at:]} {
			if wantParse(t, changed) {
				names++
			}
		}
		if t.Failed() {
			return
		}
	}
	if names < 4000 {
		t.Error(names)
	}
}

// P11.6: all orders of the pairs of a level.
func TestEachOrder(t *testing.T) {
	l := []string{"o=z", "CN=y", "serialNumber=x", "2.5.4.6=w"}
	for a := range l {
		for b := range l {
			for c := range l {
				d := 6 - a - b - c
				if a == b || a == c || b == c {
					continue
				}
				level := l[a] + "+" + l[b] + "+" + l[c] + "+" + l[d]
				if k, e := dn.Of(level + ",dc=v"); k != "c=w+cn=y+o=z+serialnumber=x,dc=v" || e != api.OK {
					t.Errorf("%q: %q %d", level, k, e)
				}
			}
		}
	}
}

// Rule 5: the same arguments have the same results.
func TestRepeatable(t *testing.T) {
	for range 20 {
		for _, s := range []string{"sn=b+cn=a,dc=x;dc=y", "cn=a+CN=b", "x=a", "cn=", ",", "o=a+c=b+cn=c+ou=d"} {
			wantParse(t, s)
		}
	}
}
