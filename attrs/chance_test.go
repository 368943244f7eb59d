package attrs_test

import (
	"math/rand"
	"slices"
	"strconv"
	"testing"

	"peerage/api"
	"peerage/attrs"
	"peerage/schema"
)

// valueByChance returns a value of a syntax, mostly a valid one, often one with the key of another one.
func valueByChance(r *rand.Rand, syntax int) string {
	pick := func(l ...string) string { return l[r.Intn(len(l))] }
	if r.Intn(60) == 0 {
		return pick("\xff", "", " ", "x", "x=y", "TRUE", "1")
	}
	n := strconv.Itoa(r.Intn(45))
	switch syntax {
	case schema.Whole:
		return pick("", "-", "00") + n
	case schema.Truth:
		return pick("TRUE", "FALSE")
	case schema.Numeric:
		return pick("", " ") + n + pick("", " ")
	case schema.Real:
		return pick("3ff000000000000", "3FF000000000000", "bff000000000000") + strconv.Itoa(r.Intn(10))
	case schema.Name:
		return pick("cn=", "CN = ", "2.5.4.3=") + pick("a", "A", "b\\,") + n + pick("", ",o=x", "; O = X")
	case schema.Object:
		return pick("person", "PERSON", "2.5.6.6", "top", "1.2."+n, "w"+n, "W"+n)
	}
	return pick("a", "A", "b", " a", "a ", "\u00e9", "\u00c9") + n
}

// nameByChance returns a name of an attribute, now and then of none.
func nameByChance(r *rand.Rand) (string, int) {
	if r.Intn(200) == 0 {
		return "x", schema.Words
	}
	l := schema.Attributes()
	a := l[r.Intn(len(l))]
	names := []string{a.Name, small(a.Name), a.Oid}
	if a.Alias != "" {
		names = append(names, a.Alias)
	}
	return names[r.Intn(len(names))], a.Syntax
}

// valuesByChance returns some values of a syntax: mostly few of them, and mostly with different keys.
func valuesByChance(r *rand.Rand, syntax int) []string {
	n := r.Intn(4)
	if r.Intn(8) == 0 {
		n = r.Intn(36)
	}
	a := schema.Attribute{Syntax: syntax}
	var l []string
	for range n {
		v := valueByChance(r, syntax)
		if !among(a, l, v) || r.Intn(40) == 0 {
			l = append(l, v)
		}
	}
	return l
}

// listByChance returns a normalized list.
func listByChance(r *rand.Rand) []attrs.Attr {
	var l []attrs.Attr
	for range r.Intn(8) {
		name, syntax := nameByChance(r)
		next := append(slices.Clone(l), attr(name, valuesByChance(r, syntax)...))
		if n, e := attrs.Make(next); e == api.OK {
			l = n
		}
	}
	return l
}

// changeByChance returns a change of a list, mostly one that can be made.
func changeByChance(r *rand.Rand, l []attrs.Attr) attrs.Change {
	name, syntax := nameByChance(r)
	if len(l) > 0 && r.Intn(3) > 0 {
		name = l[r.Intn(len(l))].Name
		a, _ := modelFind(name)
		syntax = a.Syntax
	}
	c := attrs.Change{Kind: r.Intn(3), Type: name, Values: valuesByChance(r, syntax)}
	if r.Intn(100) == 0 {
		c.Kind = r.Intn(9) - 3
	}
	if a, _ := modelFind(name); c.Kind == 1 && r.Intn(4) > 0 {
		c.Values = nil
		for _, v := range valuesIn(l, a) {
			if r.Intn(2) == 0 {
				c.Values = append(c.Values, v)
			}
		}
		r.Shuffle(len(c.Values), func(i, j int) { c.Values[i], c.Values[j] = c.Values[j], c.Values[i] })
	}
	return c
}

// P12.1: lists by chance.
func TestMakeByChance(t *testing.T) {
	r := rand.New(rand.NewSource(1))
	accepted := 0
	for range 6000 {
		var l []attrs.Attr
		for range r.Intn(6) {
			name, syntax := nameByChance(r)
			values := valuesByChance(r, syntax)
			if len(values) == 0 && r.Intn(20) > 0 {
				values = []string{valueByChance(r, syntax)}
			}
			l = append(l, attr(name, values...))
		}
		if wantMake(t, l) {
			accepted++
		}
		if t.Failed() {
			return
		}
	}
	if accepted < 1500 || accepted > 5000 {
		t.Error(accepted)
	}
}

// P12.1: neither the order of the attributes nor that of their values counts.
func TestMakeShuffled(t *testing.T) {
	r := rand.New(rand.NewSource(2))
	for range 300 {
		l := listByChance(r)
		var m []attrs.Attr
		for _, i := range r.Perm(len(l)) {
			var values []string
			for _, j := range r.Perm(len(l[i].Values)) {
				values = append(values, l[i].Values[j])
			}
			m = append(m, attr(l[i].Name, values...))
		}
		if got, e := attrs.Make(m); !equal(got, l) || e != api.OK || !attrs.Same(got, l) {
			t.Fatalf("Make of %q: %q %d instead of %q", m, got, e, l)
		}
	}
}

// P12.2: changes by chance.
func TestApplyByChance(t *testing.T) {
	r := rand.New(rand.NewSource(3))
	accepted := 0
	for range 6000 {
		l := listByChance(r)
		var changes []attrs.Change
		now := l
		for range r.Intn(5) {
			c := changeByChance(r, now)
			next, e := modelChange(now, c)
			if e != api.OK && r.Intn(3) > 0 {
				continue
			}
			changes = append(changes, c)
			if e == api.OK {
				now = next
			}
		}
		if wantApply(t, l, changes...) {
			accepted++
		}
		if t.Failed() {
			return
		}
	}
	if accepted < 2000 || accepted > 5500 {
		t.Error(accepted)
	}
}

// P12.4: values that were just added are deleted again.
func TestAddedAndDeleted(t *testing.T) {
	r := rand.New(rand.NewSource(4))
	added := 0
	for range 6000 {
		l := listByChance(r)
		c := changeByChance(r, l)
		c.Kind = 0
		m, e := attrs.Apply(l, []attrs.Change{c})
		if e != api.OK {
			continue
		}
		added++
		back, e := attrs.Apply(m, []attrs.Change{del(c.Type, c.Values...)})
		if !equal(back, l) || e != api.OK {
			t.Fatalf("%q %v: %q %d", l, c, back, e)
		}
		back, e = attrs.Apply(l, []attrs.Change{c, del(c.Type, c.Values...)})
		if !equal(back, l) || e != api.OK {
			t.Fatalf("%q %v: %q %d", l, c, back, e)
		}
	}
	if added < 1500 {
		t.Error(added)
	}
}

// P12.3: Has by chance.
func TestHasByChance(t *testing.T) {
	r := rand.New(rand.NewSource(5))
	seen := 0
	for range 6000 {
		l := listByChance(r)
		name, syntax := nameByChance(r)
		if len(l) > 0 && r.Intn(4) > 0 {
			name = l[r.Intn(len(l))].Name
			a, _ := modelFind(name)
			syntax = a.Syntax
		}
		v := valueByChance(r, syntax)
		a, _ := modelFind(name)
		// A value that is not valid makes a list of itself alone that Make does not accept.
		_, e := modelMake([]attrs.Attr{attr(name, v)})
		want := e == api.OK && among(a, valuesIn(l, a), v)
		if got := attrs.Has(l, name, v); got != want {
			t.Fatalf("Has of %q and %q in %q: %v", name, v, l, got)
		}
		if want {
			seen++
		}
	}
	if seen < 100 {
		t.Error(seen)
	}
}

// Rule 5: the same arguments have the same results.
func TestRepeatable(t *testing.T) {
	l := made(t, every(false)...)
	l, e := attrs.Apply(l, []attrs.Change{replace("cn", numbers(1, maxValues)...), add("sn", numbers(1, 9)...)})
	if e != api.OK {
		t.Fatal(e)
	}
	for range 50 {
		wantApply(t, l, del("cn", "v3", "v7"), add("uid", "c", "b", "a"), replace("mail", numbers(1, 20)...))
		wantApply(t, l, del("cn", "v3", "v40"))
		wantApply(t, l, add("cn", "a", "v3", "b"))
	}
}
