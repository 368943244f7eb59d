package truth_test

import (
	"math/rand"
	"slices"
	"strings"
	"testing"

	"peerage/api"
	"peerage/attrs"
	"peerage/entry"
	"peerage/filter"
	"peerage/oid"
	"peerage/schema"
	"peerage/truth"
)

// pick returns one of l.
func pick[T any](r *rand.Rand, l ...T) T {
	return l[r.Intn(len(l))]
}

// valueByChance returns a value for an attribute of this syntax, valid in most cases.
func valueByChance(r *rand.Rand, syntax int) string {
	if r.Intn(20) == 0 {
		return pick(r, "", " ", "x", "\xff", "1", "cn=", "\x01", "TRUE", "3ff0000000000000")
	}
	switch syntax {
	case schema.Words, schema.Exact:
		s := pick(r, "a", "b", "A")
		for range r.Intn(4) {
			s += pick(r, "a", "b", "A", "B", " ", "\u00e4", "\u00c4", "\t", "\x01", "*")
		}
		return s
	case schema.Whole:
		return pick(r, "", "-") + pick(r, "0", "1", "01", "9", "10", "12345678901234567890", "99999999999999999999")
	case schema.Truth:
		return pick(r, "TRUE", "FALSE")
	case schema.Octets:
		return pick(r, "", "a", "A", "ab", "\x00", "\xff", "\u00e4")
	case schema.Name:
		return pick(r, "", "o=x", "O = X", "cn=a,o=x", "CN=A;O=x", "cn=a+sn=b", "sn=b+cn=A")
	case schema.Numeric:
		return pick(r, "1", " 1", "12", "1 2", "21", "1 2 1", "0")
	case schema.Real:
		return pick(r, "0000000000000000", "8000000000000000", "3ff0000000000000", "3FF0000000000000", "bff0000000000000", "7ff0000000000000", "fff0000000000000", "7ff8000000000000", "fff0000000000001")
	}
	return pick(r, "person", "2.5.6.6", "PERSON", "top", "1.2.3", "x", "X")
}

// entryByChance returns an entry with some of all attributes.
func entryByChance(r *rand.Rand) entry.Entry {
	var e entry.Entry
	for _, a := range schema.Attributes() {
		var values []string
		for range r.Intn(4) {
			values = append(values, valueByChance(r, a.Syntax))
		}
		// What is not valid, or not allowed beside the rest, is left out.
		for _, v := range values {
			if l, bad := attrs.Apply(e.Attrs, []attrs.Change{{Kind: 0, Type: a.Name, Values: []string{v}}}); bad == api.OK {
				e.Attrs = l
			}
		}
	}
	return e
}

// partByChance returns a part of a Sought filter, or nothing.
func partByChance(r *rand.Rand, syntax int) string {
	switch r.Intn(4) {
	case 0:
		return ""
	case 1, 2:
		return pick(r, "a", "A", "b", " ", "1", "2", "\u00c4", "a ")
	}
	return pick(r, "", "", " ") + valueByChance(r, pick(r, syntax, syntax, schema.Words, schema.Numeric)) + pick(r, "", "", "  ")
}

// leafByChance returns a filter without kids. Its parts have no bytes that are not UTF-8, but for the ones that no value has.
func leafByChance(r *rand.Rand) filter.Filter {
	a := pick(r, schema.Attributes()...)
	f := filter.Filter{Kind: filter.Equal + r.Intn(6)}
	if f.Kind == filter.Sought && r.Intn(4) > 0 {
		a, _ = schema.Find(pick(r, "cn", "serialNumber", "telephoneNumber"))
	}
	f.Type = oid.Lower(pick(r, a.Name, a.Name, a.Oid, a.Alias))
	if f.Type == "" || r.Intn(15) == 0 {
		f.Type = pick(r, "x", "1.2.3", "person")
	}
	f.Type += pick(r, "", "", "", "", "", "", "", "", "", ";a", ";a;b")
	switch f.Kind {
	case filter.Present:
	case filter.Sought:
		f.First, f.Last = partByChance(r, a.Syntax), partByChance(r, a.Syntax)
		for range r.Intn(3) {
			if s := partByChance(r, a.Syntax); s != "" {
				f.Between = append(f.Between, s)
			}
		}
		if f.First == "" && len(f.Between) == 0 && f.Last == "" {
			f.Last = "a"
		}
	default:
		f.Value = valueByChance(r, a.Syntax)
	}
	return f
}

// filterByChance returns a filter of at most so many levels, valid in most cases.
func filterByChance(r *rand.Rand, levels int) filter.Filter {
	kind := r.Intn(5)
	if levels <= 1 || kind > filter.Not {
		f := leafByChance(r)
		if r.Intn(200) == 0 {
			f.Type = pick(r, "", "CN", "cn;b;a", "cn ")
		}
		return f
	}
	f := filter.Filter{Kind: kind, Kids: []filter.Filter{filterByChance(r, levels-1)}}
	if kind != filter.Not {
		for range r.Intn(4) - 1 {
			f.Kids = append(f.Kids, filterByChance(r, levels-1))
		}
	}
	return f
}

// hiddenByChance returns the names of some attributes, and other strings.
func hiddenByChance(r *rand.Rand) []string {
	var l []string
	for range r.Intn(6) {
		l = append(l, pick(r, pick(r, schema.Attributes()...).Name, "x", "", "commonName", "2.5.4.3"))
	}
	return l
}

// shuffled returns f with the kids of each filter in it in another order.
func shuffled(r *rand.Rand, f filter.Filter) filter.Filter {
	f.Kids = slices.Clone(f.Kids)
	for i := range f.Kids {
		f.Kids[i] = shuffled(r, f.Kids[i])
	}
	r.Shuffle(len(f.Kids), func(i, j int) { f.Kids[i], f.Kids[j] = f.Kids[j], f.Kids[i] })
	return f
}

// wantLaws holds P15.4 for f, whose value is n.
func wantLaws(t *testing.T, r *rand.Rand, f filter.Filter, e entry.Entry, hidden []string, n int) {
	t.Helper()
	if twice := nested(f, 2); filter.Right(twice) && truth.Eval(twice, e, hidden) != n {
		t.Errorf("a double Not of %q, hidden %q: not %d", filter.Text(f), hidden, n)
	}
	other := shuffled(r, f)
	if got := truth.Eval(other, e, hidden); got != n {
		t.Errorf("%q, hidden %q: %d instead of %d as %q", filter.Text(other), hidden, got, n, filter.Text(f))
	}
	if !slices.Equal(truth.Types(other), truth.Types(f)) {
		t.Errorf("Types of %q and %q", filter.Text(other), filter.Text(f))
	}
	more := append(slices.Clone(hidden), hiddenByChance(r)...)
	if l := truth.Types(f); len(l) > 0 {
		more = append(more, pick(r, l...))
	}
	if got := truth.Eval(f, e, more); got != n && got != truth.Undefined {
		t.Errorf("%q: %d, but %d with %q hidden instead of %q", filter.Text(f), n, got, more, hidden)
	}
	// What f does not ask for does not count.
	var rest []string
	for _, a := range schema.Attributes() {
		if !slices.Contains(truth.Types(f), a.Name) {
			rest = append(rest, a.Name)
		}
	}
	if got := truth.Eval(f, e, append(rest, hidden...)); got != n {
		t.Errorf("%q: %d with %q hidden instead of %d", filter.Text(f), got, rest, n)
	}
}

// P15.2 to P15.4: filters, entries and hidden attributes by chance.
func TestByChance(t *testing.T) {
	r := rand.New(rand.NewSource(1))
	seen := map[[2]int]int{}
	for range 1500 {
		e := entryByChance(r)
		for range 20 {
			f, hidden := filterByChance(r, 1+r.Intn(4)), hiddenByChance(r)
			n := modelEval(f, e, hidden)
			wantEval(t, f, e, hidden, n)
			wantLaws(t, r, f, e, hidden, n)
			if t.Failed() {
				t.Fatalf("%q", e.Attrs)
			}
			seen[[2]int{f.Kind, n}]++
		}
	}
	for kind := filter.And; kind <= filter.Like; kind++ {
		for _, n := range values {
			if seen[[2]int{kind, n}] < 50 {
				t.Errorf("kind %d has the value %d %d times", kind, n, seen[[2]int{kind, n}])
			}
		}
	}
}

// known returns a value for the attribute a, often one that the entry has.
func known(r *rand.Rand, e entry.Entry, a schema.Attribute) string {
	if l := attrs.Values(e.Attrs, a.Name); len(l) > 0 && r.Intn(2) == 0 {
		return pick(r, l...)
	}
	return valueByChance(r, a.Syntax)
}

// cut gives f pieces of a value, with something between them left out now and then.
func cut(r *rand.Rand, f *filter.Filter, value string) {
	l := []rune(value)
	if strings.Contains(value, "\xff") || len(l) == 0 {
		l = []rune("a")
	}
	i, j := r.Intn(len(l)+1), r.Intn(len(l)+1)
	i, j = min(i, j), max(i, j)
	f.First, f.Last = string(l[:i]), string(l[j:])
	if middle := string(l[i:j]); middle != "" && (len(middle) == len(value) || r.Intn(3) > 0) {
		f.Between = []string{middle}
	}
}

// P15.2: each attribute against filters of each kind.
func TestEachAttribute(t *testing.T) {
	r := rand.New(rand.NewSource(2))
	for _, a := range schema.Attributes() {
		for range 40 {
			e := entryByChance(r)
			for kind := filter.Equal; kind <= filter.Like; kind++ {
				f := filter.Filter{Kind: kind, Type: a.Oid}
				switch kind {
				case filter.Present:
				case filter.Sought:
					cut(r, &f, known(r, e, a))
				default:
					f.Value = known(r, e, a)
				}
				wantEval(t, f, e, nil, modelEval(f, e, nil))
				wantEval(t, f, e, []string{a.Name}, truth.Undefined)
				wantLaws(t, r, f, e, nil, truth.Eval(f, e, nil))
			}
			if t.Failed() {
				t.Fatalf("%q", e.Attrs)
			}
		}
	}
}
