package filter

import (
	"strings"

	"peerage/api"
	"peerage/ber"
	"peerage/escape"
	"peerage/tag"
)

// parser reads the texts of filters.
type parser struct {
	rest string // what is not read yet
	left room
}

// Parse returns the filter whose text is s.
func Parse(s string) (Filter, api.Errno) {
	if len(s) > maxText {
		return Filter{}, api.ErrBig
	}
	return outcome(func() Filter {
		p := parser{rest: s, left: maxCount}
		f := p.filter(1)
		demand(p.rest == "")
		return f
	})
}

// filter reads the text of a filter at this depth.
func (p *parser) filter(depth int) Filter {
	p.left.enter(depth)
	demand(p.took(opening))
	f := p.inner(depth)
	demand(p.took(closing))
	checkOwn(f)
	return f
}

// took tells whether what is not read yet begins with s, and if so takes it as read.
func (p *parser) took(s string) bool {
	rest, is := strings.CutPrefix(p.rest, s)
	p.rest = rest
	return is
}

// inner reads what a filter at this depth has between its parentheses.
func (p *parser) inner(depth int) Filter {
	for _, kind := range []int{And, Or, Not} {
		if p.took(sign(kind)) {
			return Filter{Kind: kind, Kids: p.filters(depth + 1)}
		}
	}
	// Neither a description nor a value has a parenthesis that is not escaped.
	s, _, _ := strings.Cut(p.rest, closing)
	p.rest = p.rest[len(s):]
	return simple(s)
}

// filters reads the texts of filters at this depth, up to the first byte that begins none.
func (p *parser) filters(depth int) []Filter {
	var l []Filter
	for strings.HasPrefix(p.rest, opening) {
		l = append(l, p.filter(depth))
	}
	return l
}

// simple returns the filter of the description, the operator and the value that s consists of.
func simple(s string) Filter {
	head, value, found := strings.Cut(s, equals)
	demand(found)
	for _, kind := range []int{Least, Most, Like} {
		if about, is := strings.CutSuffix(head+equals, sign(kind)); is {
			return Filter{Kind: kind, Type: normal(about), Value: unescaped(value)}
		}
	}
	about := normal(head)
	if value == star {
		return Filter{Kind: Present, Type: about}
	}
	if strings.Contains(value, star) {
		return sought(about, strings.Split(value, star))
	}
	return Filter{Kind: Equal, Type: about, Value: unescaped(value)}
}

// sought returns the filter with what stands before, between and after the stars of a value, of which there is at least one.
func sought(about string, l []string) Filter {
	last := len(l) - 1
	f := Filter{Kind: Sought, Type: about, First: unescaped(l[0]), Last: unescaped(l[last])}
	for _, s := range l[1:last] {
		f.Between = append(f.Between, unescaped(s))
	}
	return f
}

// unescaped returns the value of s. It panics if s has none.
func unescaped(s string) string {
	v, ok := escape.Unfilter(s)
	demand(ok)
	return v
}

// Read returns the filter whose element is x.
func Read(x ber.Element) (Filter, api.Errno) {
	return outcome(func() Filter {
		left := room(maxCount)
		return left.read(x, 1)
	})
}

// read returns the filter at this depth whose element is x.
func (r *room) read(x ber.Element, depth int) Filter {
	r.enter(depth)
	f := Filter{Kind: x.Tag.Number}
	switch f.Kind {
	case And, Or, Not:
		for _, kid := range kids(x, own(f.Kind)) {
			f.Kids = append(f.Kids, r.read(kid, depth+1))
		}
	case Present:
		f.Type = normal(content(x, own(Present)))
	default:
		l := kids(x, own(f.Kind))
		demand(len(l) == 2)
		f.Type = normal(content(l[0], universal(octets)))
		if f.Kind == Sought {
			readParts(&f, kids(l[1], universal(sequence)))
		} else {
			f.Value = content(l[1], universal(octets))
		}
	}
	checkOwn(f)
	return f
}

// readParts gives f the parts whose elements are l. A part that is empty would have no element.
func readParts(f *Filter, l []ber.Element) {
	for i, x := range l {
		s := content(x, part(x.Tag.Number))
		demand(s != "")
		switch x.Tag.Number {
		case firstPart:
			demand(i == 0)
			f.First = s
		case betweenPart:
			f.Between = append(f.Between, s)
		case lastPart:
			demand(i == len(l)-1)
			f.Last = s
		default:
			panic(api.ErrForm)
		}
	}
}

// content returns the bytes of x. It panics unless x has the identifier t, and bytes only.
func content(x ber.Element, t tag.Tag) string {
	demand(x.Tag == t && len(x.Kids) == 0)
	return string(x.Bytes)
}

// kids returns the kids of x. It panics unless x has the identifier t, and kids only.
func kids(x ber.Element, t tag.Tag) []ber.Element {
	demand(x.Tag == t && len(x.Bytes) == 0)
	return x.Kids
}
