package message_test

import (
	"math/rand"
	"slices"
	"strings"
	"testing"

	"peerage/api"
	"peerage/attrs"
	"peerage/ber"
	"peerage/filter"
	"peerage/message"
	"peerage/tag"
)

// pick returns one of l.
func pick[T any](r *rand.Rand, l ...T) T {
	return l[r.Intn(len(l))]
}

// textByChance returns a string, now and then a long one.
func textByChance(r *rand.Rand) string {
	return pick(r, "", "a", "cn", "o=x", "cn=a,o=x", "\x00", "\xff\x80", "\u20ac", strings.Repeat("v", r.Intn(300)))
}

// textsByChance returns some strings.
func textsByChance(r *rand.Rand) []string {
	var l []string
	for range r.Intn(4) {
		l = append(l, textByChance(r))
	}
	return l
}

// numberByChance returns a number up to the greatest one, often a small one.
func numberByChance(r *rand.Rand) int {
	return r.Intn(1 << r.Intn(32))
}

// filterByChance returns a valid filter of at most so many levels.
func filterByChance(r *rand.Rand, levels int) filter.Filter {
	switch kind := r.Intn(9); kind {
	case filter.And, filter.Or, filter.Not:
		f := filter.Filter{Kind: kind}
		for range r.Intn(3) {
			if levels > 1 && kind != filter.Not {
				f.Kids = append(f.Kids, filterByChance(r, levels-1))
			}
		}
		if kind == filter.Not {
			f.Kids = []filter.Filter{{Kind: filter.Present, Type: "x"}}
		}
		return f
	case filter.Present:
		return filter.Filter{Kind: kind, Type: pick(r, "cn", "2.5.4.3", "cn;a;b")}
	case filter.Sought:
		return filter.Filter{Kind: kind, Type: "sn", First: textByChance(r), Last: "l", Between: pick(r, nil, []string{"a"}, []string{"a", "\xff"})}
	default:
		return filter.Filter{Kind: kind, Type: pick(r, "cn", "uid;x"), Value: textByChance(r)}
	}
}

// messageByChance returns a valid message.
func messageByChance(r *rand.Rand) message.Message {
	m := message.Message{Id: numberByChance(r), Kind: r.Intn(17)}
	for _, field := range mentioned(m.Kind) {
		switch field {
		case "Name":
			m.Name = textByChance(r)
		case "Secret":
			m.Secret = textByChance(r)
		case "Target":
			m.Target = numberByChance(r)
		case "Filter":
			m.Scope, m.Most, m.TypesOnly = r.Intn(3), numberByChance(r), r.Intn(2) == 0
			m.Filter, m.Wanted = filterByChance(r, 4), textsByChance(r)
		case "Changes":
			for range r.Intn(4) {
				m.Changes = append(m.Changes, attrs.Change{Kind: r.Intn(3), Type: textByChance(r), Values: textsByChance(r)})
			}
		case "Attrs":
			for range r.Intn(4) {
				m.Attrs = append(m.Attrs, attrs.Attr{Name: textByChance(r), Values: textsByChance(r)})
			}
		case "Level":
			m.Level, m.DropOld, m.Move = textByChance(r), r.Intn(2) == 0, r.Intn(2) == 0
			if m.Move {
				m.Above = textByChance(r)
			}
		case "Type":
			m.Type, m.Value = textByChance(r), textByChance(r)
		case "Code":
			m.Code, m.Matched, m.Text = r.Intn(128), textByChance(r), textByChance(r)
		}
	}
	return m
}

// fault changes something in m.
func fault(r *rand.Rand, m message.Message) message.Message {
	other := messageByChance(r)
	n := pick(r, -1, 0, 1, 2, 3, 127, 128, maxNumber, maxNumber+1)
	switch r.Intn(14) {
	case 0:
		m.Id = n
	case 1:
		m.Kind = r.Intn(19) - 1
	case 2:
		m.Name = other.Name
	case 3:
		m.Secret = other.Secret
	case 4:
		m.Scope = n
	case 5:
		m.Most = n
	case 6:
		m.TypesOnly = !m.TypesOnly
	case 7:
		m.Filter = pick(r, other.Filter, filter.Filter{Kind: n})
	case 8:
		m.Wanted, m.Attrs = other.Wanted, other.Attrs
	case 9:
		m.Changes = append(slices.Clone(m.Changes), attrs.Change{Kind: n})
	case 10:
		m.Above, m.Move = other.Above, r.Intn(2) == 0
	case 11:
		m.Level, m.DropOld = other.Level, other.DropOld
	case 12:
		m.Type, m.Value, m.Target = other.Type, other.Value, pick(r, n, m.Target)
	case 13:
		m.Code, m.Matched, m.Text = n, other.Matched, other.Text
	}
	return m
}

// P16.1, P16.3, P16.4: messages by chance.
func TestByChance(t *testing.T) {
	r := rand.New(rand.NewSource(1))
	seen := map[api.Errno]int{}
	var last message.Message
	for range 20000 {
		m := messageByChance(r)
		if e := wantPut(t, m); e != api.OK {
			t.Errorf("%#v: %d", m, e)
		}
		bad := fault(r, m)
		seen[wantPut(t, bad)]++
		for _, other := range []message.Message{last, bad} {
			if got := message.Same(m, other); got != equal(m, other) {
				t.Errorf("Same of %#v and %#v: %v", m, other, got)
			}
		}
		last = m
		if t.Failed() {
			return
		}
	}
	if seen[api.OK] < 3000 || seen[api.ErrArg] < 3000 {
		t.Error(seen)
	}
}

// P16.2: messages with one byte changed, put in or left out.
func TestReadEachByte(t *testing.T) {
	for s := range samples() {
		b := unspaced(s)
		for i := range len(b) + 1 {
			for c := range 256 {
				one := string([]byte{byte(c)})
				wantRead(t, b[:i]+one+b[i:])
				if i < len(b) {
					wantRead(t, b[:i]+one+b[i+1:])
				}
			}
			wantRead(t, b[:i]+b[min(i+1, len(b)):])
			if t.Failed() {
				return
			}
		}
	}
}

// elementByChance returns x with one thing somewhere in it changed.
func elementByChance(r *rand.Rand, x ber.Element) ber.Element {
	x.Kids = slices.Clone(x.Kids)
	if n := len(x.Kids); n > 0 && r.Intn(4) > 0 {
		i := r.Intn(n)
		x.Kids[i] = elementByChance(r, x.Kids[i])
		return x
	}
	switch r.Intn(7) {
	case 0:
		x.Tag.Class = r.Intn(4)
	case 1:
		x.Tag.Made, x.Bytes, x.Kids = !x.Tag.Made, nil, nil
	case 2:
		x.Tag.Number = pick(r, 0, 1, 2, 3, 4, 10, 16, 17)
	case 3:
		if !x.Tag.Made {
			x.Bytes = []byte(pick(r, "", "\x00", "\x01", "\x03", "\x7f", "\x80", "\xff", "\x00\x80", "\x00\x01", "\x7f\xff\xff\xff", "\x00\x80\x00\x00\x00", "CN", "b;A"))
		}
	case 4:
		if x.Tag.Made {
			kid := ber.Element{Tag: tag.Tag{Class: pick(r, tag.Universal, tag.Context), Number: pick(r, 0, 4)}}
			x.Kids = slices.Insert(x.Kids, r.Intn(len(x.Kids)+1), kid)
		}
	case 5:
		i := r.Intn(len(x.Kids) + 1)
		x.Kids = slices.Delete(x.Kids, i, min(i+1, len(x.Kids)))
	case 6:
		if x.Tag.Made {
			kid := ber.Element{Tag: tag.Tag{Class: pick(r, tag.Universal, tag.Context), Made: true, Number: pick(r, 0, 16, 17)}}
			x.Kids = append(x.Kids, kid)
		}
	}
	return x
}

// P16.2: elements changed by chance.
func TestReadByChance(t *testing.T) {
	r := rand.New(rand.NewSource(2))
	seen := map[api.Errno]int{}
	for range 40000 {
		b, _ := message.Put(messageByChance(r))
		x, _, _ := ber.Parse(b)
		for range r.Intn(3) {
			x = elementByChance(r, x)
		}
		seen[wantRead(t, lengths(x, 2))]++
		if t.Failed() {
			return
		}
	}
	if seen[api.OK] < 10000 || seen[api.ErrForm] < 10000 {
		t.Error(seen)
	}
}

// P16.1: of two valid messages that differ, the bytes differ.
func TestBytesDiffer(t *testing.T) {
	r := rand.New(rand.NewSource(3))
	var l []message.Message
	var b []string
	for range 600 {
		m := messageByChance(r)
		m.Id %= 2
		s, _ := message.Put(m)
		l, b = append(l, m), append(b, string(s))
	}
	for i := range l {
		for j := range l {
			if got := message.Same(l[i], l[j]); got != (b[i] == b[j]) {
				t.Errorf("%#v and %#v", l[i], l[j])
			}
		}
	}
}
