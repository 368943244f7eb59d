package filter_test

import (
	"math/rand"
	"slices"
	"testing"

	"peerage/api"
	"peerage/ber"
	"peerage/filter"
	"peerage/tag"
)

// pick returns one of l.
func pick[T any](r *rand.Rand, l ...T) T {
	return l[r.Intn(len(l))]
}

// valueByChance returns some pieces that have a meaning in texts, or none.
func valueByChance(r *rand.Rand) string {
	s := ""
	for range r.Intn(4) {
		s += pick(r, "a", "B", " ", "*", "(", ")", "\\", "\x00", "=", ">", "<", "~", "&", "|", "!", "\u00e4", "\u20ac", "\xc3", "\xff", "2a", "\\2a", "\n", ";")
	}
	return s
}

// filterByChance returns a filter of at most so many levels, valid in most cases if wrong is 0, and with faults now and then otherwise.
func filterByChance(r *rand.Rand, levels, wrong int) filter.Filter {
	fault := func() bool { return wrong > 0 && r.Intn(wrong) == 0 }
	f := filter.Filter{Kind: r.Intn(9)}
	if levels <= 1 && f.Kind == filter.Not {
		f.Kind = filter.Present
	}
	switch f.Kind {
	case filter.And, filter.Or:
		if levels > 1 {
			for range r.Intn(4) {
				f.Kids = append(f.Kids, filterByChance(r, levels-1, wrong))
			}
		}
	case filter.Not:
		f.Kids = append(f.Kids, filterByChance(r, levels-1, wrong))
	default:
		f.Type = pick(r, "cn", "sn", "x", "2.5.4.3", "cn;a", "cn;a;b")
	}
	switch f.Kind {
	case filter.Equal, filter.Least, filter.Most, filter.Like:
		f.Value = valueByChance(r)
	case filter.Sought:
		f.First, f.Last = valueByChance(r), valueByChance(r)
		for range r.Intn(3) {
			f.Between = append(f.Between, pick(r, "a", "*", "\xff")+valueByChance(r))
		}
		if f.First == "" && f.Last == "" && len(f.Between) == 0 {
			f.Last = "a"
		}
	}
	if fault() {
		f.Kind = r.Intn(11) - 1
	}
	if fault() {
		f.Type = pick(r, "", "CN", "cn;b;a", "1a", "cn;A", "2.5.4.3;X")
	}
	if fault() {
		f.Value = valueByChance(r)
	}
	if fault() {
		f.First, f.Last = valueByChance(r), ""
	}
	if fault() {
		f.Between = append(f.Between, valueByChance(r))
	}
	if fault() {
		f.Kids = append(f.Kids, filter.Filter{Kind: r.Intn(2)})
	}
	return f
}

// P14.1 to P14.6: filters by chance.
func TestByChance(t *testing.T) {
	r := rand.New(rand.NewSource(1))
	valid, invalid := 0, 0
	var last filter.Filter
	for i := range 40000 {
		f := filterByChance(r, 1+r.Intn(6), i%2*30)
		if wantFilter(t, f) {
			valid++
		} else {
			invalid++
		}
		wantRead(t, modelPut(f))
		wantParse(t, modelText(f))
		if got := filter.Same(f, last); got != equal(f, last) {
			t.Errorf("Same of %#v and %#v: %v", f, last, got)
		}
		last = f
		if t.Failed() {
			return
		}
	}
	if valid < 10000 || invalid < 3000 {
		t.Error(valid, invalid)
	}
}

// change returns s with some of its bytes left out, changed, doubled or put in.
func change(r *rand.Rand, s string) string {
	for range 1 + r.Intn(2) {
		i, j := r.Intn(len(s)+1), r.Intn(len(s)+1)
		i, j = min(i, j), min(max(i, j), min(i, j)+r.Intn(6))
		piece := pick(r, "", "(", ")", "()", "&", "|", "!", "=", "*", "\\", "\\2a", ">", "<", "~", "a", ";", "(&", "(cn=a)", "(&)", "\x00", "\xff", "C", s[i:j]+s[i:j], string([]byte{byte(r.Intn(256))}))
		s = s[:i] + piece + s[j:]
	}
	return s
}

// P14.3: texts changed by chance.
func TestParseByChance(t *testing.T) {
	r := rand.New(rand.NewSource(2))
	seen := map[api.Errno]int{}
	for range 60000 {
		s := modelText(filterByChance(r, 1+r.Intn(4), 0))
		seen[wantParse(t, change(r, s))]++
		if t.Failed() {
			return
		}
	}
	if seen[api.OK] < 5000 || seen[api.ErrForm] < 10000 {
		t.Error(seen)
	}
}

// elementByChance returns x with one thing somewhere in it changed.
func elementByChance(r *rand.Rand, x ber.Element) ber.Element {
	x.Kids = slices.Clone(x.Kids)
	if n := len(x.Kids); n > 0 && r.Intn(4) > 0 {
		i := r.Intn(n)
		x.Kids[i] = elementByChance(r, x.Kids[i])
		return x
	}
	switch r.Intn(6) {
	case 0:
		x.Tag.Class = pick(r, tag.Universal, tag.Application, tag.Context, tag.Private)
	case 1:
		x.Tag.Made = !x.Tag.Made
	case 2:
		x.Tag.Number = r.Intn(18)
	case 3:
		x.Bytes = []byte(pick(r, "", "a", "CN", "cn;b;a", "\xff"))
	case 4:
		i := r.Intn(len(x.Kids) + 1)
		x.Kids = slices.Insert(x.Kids, i, modelPut(filterByChance(r, 1, 0)))
	case 5:
		i := r.Intn(len(x.Kids) + 1)
		x.Kids = slices.Delete(x.Kids, i, min(i+1, len(x.Kids)))
	}
	return x
}

// P14.5: elements changed by chance.
func TestReadByChance(t *testing.T) {
	r := rand.New(rand.NewSource(3))
	seen := map[api.Errno]int{}
	for range 60000 {
		x := modelPut(filterByChance(r, 1+r.Intn(4), 0))
		for range 1 + r.Intn(2) {
			x = elementByChance(r, x)
		}
		seen[wantRead(t, x)]++
		if t.Failed() {
			return
		}
	}
	if seen[api.OK] < 5000 || seen[api.ErrForm] < 10000 {
		t.Error(seen)
	}
}

// P14.2 and P14.4: of two valid filters that differ, the texts and the elements differ.
func TestTextsDiffer(t *testing.T) {
	r := rand.New(rand.NewSource(4))
	var l []filter.Filter
	for range 400 {
		if f := filterByChance(r, 2, 0); filter.Right(f) {
			l = append(l, f)
		}
	}
	for _, a := range l {
		for _, b := range l {
			same := equal(a, b)
			if filter.Same(a, b) != same || (filter.Text(a) == filter.Text(b)) != same || sameElement(filter.Put(a), filter.Put(b)) != same {
				t.Errorf("%#v and %#v", a, b)
			}
		}
	}
}

// P14.3: all short texts of some pieces.
func TestAllShort(t *testing.T) {
	accepted := 0
	var each func(s, after string, size int, pieces []string)
	each = func(s, after string, size int, pieces []string) {
		if wantParse(t, s+after) == api.OK {
			accepted++
		}
		if size == 0 || t.Failed() {
			return
		}
		for _, piece := range pieces {
			each(s+piece, after, size-1, pieces)
		}
	}
	each("", "", 7, []string{"(", ")", "&", "a", "="})
	each("", "", 4, []string{"(", ")", "&", "|", "!", "(a=)", "=", "*", "a"})
	each("(", ")", 5, []string{"a", "=", "*", ">", "<", "~", `\2a`, "\\"})
	each("(a=", ")", 6, []string{"a", "=", "*", `\2a`, ")"})
	each("(&(!", "))", 5, []string{"(a=b)", "(", ")", "&", "!", "|"})
	if accepted < 2000 {
		t.Error(accepted)
	}
}
