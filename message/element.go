package message

import (
	"slices"

	"peerage/attrs"
	"peerage/ber"
	"peerage/filter"
	"peerage/tag"
	"peerage/whole"
)

// The identifiers of the parts of messages: those of the class Universal, and the one of the class Context.
const (
	boolean    = 1
	integer    = 2
	octets     = 4
	enumerated = 10
	sequence   = 16
	set        = 17

	special = 0
)

// What Put writes where a message has nothing of its own.
const (
	version   = 3 // of the protocol
	noAliases = 0 // a search follows none
	noTime    = 0 // a search may take any time
)

// room is how many more bytes a message can have.
type room int

// fits tells whether the lists of m, whose filter is valid, may fit in the room that is left. Lists can share their memory: the elements of some that need little of it could need more than there is, and none is made before this is known.
func (left *room) fits(m Message) bool {
	return left.take(m.Wanted...) && left.takeFilter(m.Filter) &&
		!slices.ContainsFunc(m.Attrs, func(a attrs.Attr) bool {
			return !left.take(a.Name) || !left.take(a.Values...)
		}) &&
		!slices.ContainsFunc(m.Changes, func(c attrs.Change) bool {
			return !left.take(c.Type) || !left.take(c.Values...)
		})
}

// take takes the room of strings, each with a byte of the two or more that its element has besides. It tells whether there is room for them.
func (left *room) take(l ...string) bool {
	for _, s := range l {
		if len(s) >= int(*left) {
			return false
		}
		*left -= room(len(s) + 1)
	}
	return true
}

// takeFilter takes the room of the lists in f, which is valid, and tells whether there is room for these and for each string.
func (left *room) takeFilter(f filter.Filter) bool {
	longest := max(len(f.Value), len(f.First), len(f.Last))
	return longest < int(*left) && left.take(f.Between...) &&
		!slices.ContainsFunc(f.Kids, func(kid filter.Filter) bool { return !left.takeFilter(kid) })
}

// element returns the element of m, which is valid but for its size.
func element(m Message) ber.Element {
	return made(universal(sequence), number(integer, m.Id), operation(m))
}

// operation returns the element of what m says besides its number.
func operation(m Message) ber.Element {
	t := own(m.Kind)
	switch m.Kind {
	case Bind:
		return made(t, number(integer, version), text(m.Name), plain(context(false), []byte(m.Secret)))
	case Unbind:
		return plain(t, nil)
	case Search:
		return made(t, search(m)...)
	case Found, Add:
		return made(t, text(m.Name), list(sequence, m.Attrs, attribute))
	case Modify:
		return made(t, text(m.Name), list(sequence, m.Changes, change))
	case Delete:
		return plain(t, []byte(m.Name))
	case Rename:
		return made(t, rename(m)...)
	case Compare:
		return made(t, text(m.Name), made(universal(sequence), text(m.Type), text(m.Value)))
	case Abandon:
		return plain(t, whole.Put(m.Target))
	}
	return made(t, number(enumerated, m.Code), text(m.Matched), text(m.Text))
}

// search returns the elements of a Search.
func search(m Message) []ber.Element {
	return []ber.Element{
		text(m.Name), number(enumerated, m.Scope), number(enumerated, noAliases),
		number(integer, m.Most), number(integer, noTime), truth(m.TypesOnly),
		filter.Put(m.Filter), list(sequence, m.Wanted, text),
	}
}

// rename returns the elements of a Rename.
func rename(m Message) []ber.Element {
	l := []ber.Element{text(m.Name), text(m.Level), truth(m.DropOld)}
	if m.Move {
		l = append(l, plain(context(false), []byte(m.Above)))
	}
	return l
}

// attribute returns the element of an attribute.
func attribute(a attrs.Attr) ber.Element {
	return typed(a.Name, a.Values)
}

// change returns the element of a change.
func change(c attrs.Change) ber.Element {
	return made(universal(sequence), number(enumerated, c.Kind), typed(c.Type, c.Values))
}

// typed returns the element of a type with its values.
func typed(about string, values []string) ber.Element {
	return made(universal(sequence), text(about), list(set, values, text))
}

// list returns the element with this identifier that consists of the elements of l.
func list[T any](id int, l []T, of func(T) ber.Element) ber.Element {
	x := made(universal(id))
	for _, one := range l {
		x.Kids = append(x.Kids, of(one))
	}
	return x
}

// text returns the element of a string.
func text(s string) ber.Element {
	return plain(universal(octets), []byte(s))
}

// number returns the element of a number: an integer, or one that is enumerated.
func number(id, n int) ber.Element {
	return plain(universal(id), whole.Put(n))
}

// truth returns the element of a bool.
func truth(is bool) ber.Element {
	return plain(universal(boolean), whole.PutBool(is))
}

// plain returns an element that consists of bytes.
func plain(t tag.Tag, b []byte) ber.Element {
	return ber.Element{Tag: t, Bytes: b}
}

// made returns an element that consists of kids.
func made(t tag.Tag, kids ...ber.Element) ber.Element {
	return ber.Element{Tag: t, Kids: kids}
}

// universal returns the identifier of a part that every protocol could have.
func universal(id int) tag.Tag {
	return tag.Tag{Class: tag.Universal, Made: id == sequence || id == set, Number: id}
}

// context returns the identifier of a part that only this protocol has.
func context(made bool) tag.Tag {
	return tag.Tag{Class: tag.Context, Made: made, Number: special}
}

// own returns the identifier of the operation of a kind.
func own(kind int) tag.Tag {
	bytesOnly := kind == Unbind || kind == Delete || kind == Abandon
	return tag.Tag{Class: tag.Application, Made: !bytesOnly, Number: kind}
}
