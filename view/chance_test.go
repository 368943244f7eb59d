package view_test

import (
	"math/rand"
	"slices"
	"strings"
	"testing"

	"peerage/acl"
	"peerage/attrs"
	"peerage/entry"
	"peerage/schema"
	"peerage/view"
)

// pick returns one of l.
func pick[T any](r *rand.Rand, l ...T) T {
	return l[r.Intn(len(l))]
}

// keyByChance returns one of a few keys, of which some are below others.
func keyByChance(r *rand.Rand) string {
	return pick(r, "o=x", "ou=a,o=x", "cn=a,o=x", "cn=b,ou=a,o=x", "cn=a,ou=a,o=x", "o=y")
}

// attrByChance returns the Name of an attribute.
func attrByChance(r *rand.Rand) string {
	return pick(r, schema.Attributes()...).Name
}

// rulesByChance returns some rules, valid in most cases.
func rulesByChance(r *rand.Rand) []Rule {
	var l []Rule
	for range r.Intn(12) {
		x := Rule{Allow: r.Intn(3) > 0, Who: pick(r, acl.Anyone, r.Intn(7)), Base: pick(r, "", "", keyByChance(r)), Rights: pick(r, 127, 1<<r.Intn(7), 1+r.Intn(127))}
		if x.Who >= acl.One {
			x.Subject = keyByChance(r)
		}
		if r.Intn(3) > 0 {
			x.Attr = attrByChance(r)
		}
		if r.Intn(12) == 0 {
			x.Base, x.Rights = pick(r, x.Base, "O=x"), pick(r, 0, 128, x.Rights)
		}
		l = append(l, x)
	}
	// Without a rule like this most entries are not seen at all; without those before it, most are seen whole.
	if r.Intn(2) == 0 {
		for range r.Intn(8) {
			l = append(l, deny(attrByChance(r), pick(r, 127, 7, 3, 1)))
		}
		l = append(l, allow("", pick(r, 127, 3, 2, 1)))
	}
	return l
}

// askerByChance returns an asker.
func askerByChance(r *rand.Rand) Asker {
	a := Asker{Key: pick(r, "", keyByChance(r), keyByChance(r))}
	for range r.Intn(3) {
		a.Groups = append(a.Groups, keyByChance(r))
	}
	return a
}

// entryByChance returns an entry with some of all attributes, each with some values.
func entryByChance(r *rand.Rand) entry.Entry {
	e := entry.Entry{Key: keyByChance(r), Version: r.Intn(100)}
	e.Name = strings.ToUpper(e.Key)
	for _, a := range schema.Attributes() {
		if r.Intn(2) == 0 {
			x := attrs.Attr{Name: a.Name}
			for v := range 1 + r.Intn(3) {
				x.Values = append(x.Values, string([]byte{byte('a' + v)}))
			}
			e.Attrs = append(e.Attrs, x)
		}
	}
	return e
}

// wantedByChance returns a list of what is wanted.
func wantedByChance(r *rand.Rand) []string {
	var l []string
	for range r.Intn(8) {
		s := pick(r, writings(pick(r, schema.Attributes()...))...)
		s += pick(r, "", "", "", ";a", " ")
		if r.Intn(15) == 0 {
			s = pick(r, "*", "1.1", "", "x", "person", "*;a")
		}
		l = append(l, s)
	}
	return l
}

// rightsByChance returns some rights, and sometimes a number that is none.
func rightsByChance(r *rand.Rand) []int {
	var l []int
	for range r.Intn(4) {
		l = append(l, pick(r, rights...))
	}
	if r.Intn(20) == 0 {
		l = append(l, pick(r, notRights...))
	}
	return l
}

// P18.1 to P18.5: rules, askers, entries and lists by chance.
func TestByChance(t *testing.T) {
	r := rand.New(rand.NewSource(1))
	seen := map[string]int{}
	count := func(what string, is bool) {
		if is {
			seen[what]++
		} else {
			seen["not "+what]++
		}
	}
	for range 20000 {
		l, a, e, wanted := rulesByChance(r), askerByChance(r), entryByChance(r), wantedByChance(r)
		if r.Intn(3) == 0 {
			a.Key = e.Key
		}
		asked := rightsByChance(r)
		may := modelMay(l, a, e.Key, asked)
		wantMay(t, may, l, a, e.Key, asked...)
		count("may", may && len(asked) > 0)

		types := []string{attrByChance(r), attrByChance(r), attrByChance(r)}
		hidden := modelHidden(l, a, e.Key, types)
		wantHidden(t, l, a, e.Key, types, hidden...)
		count("hidden", len(hidden) > 0)

		wants := modelWants(wanted, types[0])
		wantWants(t, wants, types[0], wanted...)
		count("wants", wants && len(wanted) > 0)

		shown := modelShown(l, a, e, wanted, false)
		wantShown(t, l, a, e, wanted, attrs.Names(shown)...)
		count("shown", len(shown) > 0)

		if part, ok := modelSeen(l, a, e); ok {
			wantSeen(t, l, a, e, attrs.Names(part.Attrs)...)
			count("part", len(part.Attrs) < len(e.Attrs))
			count("seen", true)
		} else {
			wantUnseen(t, l, a, e)
			count("seen", false)
		}
		wantAgreement(t, l, a, e, wanted)
		if t.Failed() {
			return
		}
	}
	for _, what := range []string{"may", "hidden", "wants", "shown", "part", "seen"} {
		if seen[what] < 1000 || seen["not "+what] < 1000 {
			t.Error(what, seen)
		}
	}
}

// P18.4: two entries that differ only in what may neither be read nor searched by nor compared are seen as the same.
func TestUnseenDifference(t *testing.T) {
	r := rand.New(rand.NewSource(2))
	different := 0
	for range 10000 {
		l, a, e := rulesByChance(r), askerByChance(r), entryByChance(r)
		f := entryByChance(r)
		f.Key, f.Name, f.Version = e.Key, e.Name, e.Version
		unseen := func(x attrs.Attr) bool {
			return !slices.ContainsFunc([]int{acl.Read, acl.Search, acl.Compare}, func(right int) bool {
				return acl.Decide(l, a, e.Key, x.Name, right)
			})
		}
		// f gets what is seen of e, and keeps what is not seen of itself.
		f.Attrs = slices.DeleteFunc(f.Attrs, func(x attrs.Attr) bool { return !unseen(x) })
		for _, x := range e.Attrs {
			if !unseen(x) {
				f.Attrs = append(f.Attrs, x)
			}
		}
		slices.SortFunc(f.Attrs, func(x, y attrs.Attr) int {
			return strings.Compare(strings.ToLower(x.Name), strings.ToLower(y.Name))
		})
		e.Attrs = slices.Clone(e.Attrs)
		slices.SortFunc(e.Attrs, func(x, y attrs.Attr) int {
			return strings.Compare(strings.ToLower(x.Name), strings.ToLower(y.Name))
		})
		one, isOne := view.Seen(l, a, e)
		two, isTwo := view.Seen(l, a, f)
		if isOne != isTwo || !equal(one, two) {
			t.Fatalf("%+v %q: %+v %v, %+v %v", l, a, one, isOne, two, isTwo)
		}
		if isOne && !equal(e, f) {
			different++
		}
	}
	if different < 1000 {
		t.Error(different)
	}
}
