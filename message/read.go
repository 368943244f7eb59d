package message

import (
	"errors"

	"peerage/api"
	"peerage/attrs"
	"peerage/ber"
	"peerage/filter"
	"peerage/tag"
	"peerage/whole"
)

// The numbers that Read accepts where a message has nothing of its own.
const (
	minVersion = 1
	maxVersion = 127
	maxAliases = 3
)

// reader reads an element into the place for which it was made. It returns an error if nothing that belongs there has this element.
type reader func(x ber.Element) error

// Read returns the message that b begins with, and how many bytes it has.
func Read(b []byte) (Message, int, api.Errno) {
	m, n, err := decode(b)
	var e api.Errno
	if errors.As(err, &e) {
		return Message{}, 0, e
	}
	return m, n, api.OK
}

// decode is Read, but for what it returns beside an error.
func decode(b []byte) (Message, int, error) {
	x, n, e := ber.Parse(b)
	if e != api.OK {
		return Message{}, 0, e
	}
	var m Message
	l := []reader{intoNumber(integer, 0, maxNumber, &m.Id), intoOperation(&m)}
	if len(x.Kids) > len(l) {
		l = append(l, skipControls)
	}
	err := intoParts(universal(sequence), l...)(x)
	return m, n, err
}

// skipControls reads the controls of a message, of which nothing is kept.
func skipControls(x ber.Element) error {
	return demand(x.Tag == context(true))
}

// demand returns an error unless ok.
func demand(ok bool) error {
	if !ok {
		return api.ErrForm
	}
	return nil
}

// intoOperation reads what m says besides its number.
func intoOperation(m *Message) reader {
	return func(x ber.Element) error {
		m.Kind = x.Tag.Number
		return intoKind(m)(x)
	}
}

// intoKind reads what m says by its Kind.
func intoKind(m *Message) reader {
	t := own(m.Kind)
	switch m.Kind {
	case Bind:
		return intoParts(t, intoNumber(integer, minVersion, maxVersion, new(int)), intoText(&m.Name), intoBytes(context(false), &m.Secret))
	case Unbind:
		return func(x ber.Element) error { return demand(x.Tag == t && len(x.Bytes) == 0) }
	case Search:
		return intoParts(t, intoSearch(m)...)
	case Found, Add:
		return intoParts(t, intoText(&m.Name), intoList(sequence, &m.Attrs, intoAttribute))
	case Modify:
		return intoParts(t, intoText(&m.Name), intoList(sequence, &m.Changes, intoChange))
	case Delete:
		return intoBytes(t, &m.Name)
	case Rename:
		return intoRename(m)
	case Compare:
		return intoParts(t, intoText(&m.Name), intoParts(universal(sequence), intoText(&m.Type), intoText(&m.Value)))
	case Abandon:
		return intoInt(t, 0, maxNumber, &m.Target)
	case BindDone, SearchDone, ModifyDone, AddDone, DeleteDone, RenameDone, CompDone:
		return intoParts(t, intoNumber(enumerated, 0, maxCode, &m.Code), intoText(&m.Matched), intoText(&m.Text))
	}
	return func(ber.Element) error { return api.ErrForm }
}

// intoSearch returns what reads the parts of a Search.
func intoSearch(m *Message) []reader {
	return []reader{
		intoText(&m.Name), intoNumber(enumerated, 0, maxScope, &m.Scope), intoNumber(enumerated, 0, maxAliases, new(int)),
		intoNumber(integer, 0, maxNumber, &m.Most), intoNumber(integer, 0, maxNumber, new(int)), intoTruth(&m.TypesOnly),
		intoFilter(&m.Filter), intoList(sequence, &m.Wanted, intoText),
	}
}

// intoRename reads a Rename, which moves something if it has one part more.
func intoRename(m *Message) reader {
	return func(x ber.Element) error {
		l := []reader{intoText(&m.Name), intoText(&m.Level), intoTruth(&m.DropOld)}
		if len(x.Kids) > len(l) {
			m.Move = true
			l = append(l, intoBytes(context(false), &m.Above))
		}
		return intoParts(own(Rename), l...)(x)
	}
}

// intoAttribute reads an attribute.
func intoAttribute(a *attrs.Attr) reader {
	return intoTyped(&a.Name, &a.Values)
}

// intoChange reads a change.
func intoChange(c *attrs.Change) reader {
	return intoParts(universal(sequence), intoNumber(enumerated, 0, maxChange, &c.Kind), intoTyped(&c.Type, &c.Values))
}

// intoTyped reads a type with its values.
func intoTyped(about *string, values *[]string) reader {
	return intoParts(universal(sequence), intoText(about), intoList(set, values, intoText))
}

// intoParts reads an element that consists of a kid for each of l.
func intoParts(t tag.Tag, l ...reader) reader {
	return func(x ber.Element) error {
		if x.Tag != t || len(x.Kids) != len(l) {
			return api.ErrForm
		}
		for i, read := range l {
			if err := read(x.Kids[i]); err != nil {
				return err
			}
		}
		return nil
	}
}

// intoList reads an element that consists of any number of kids, each by the reader that of makes for it.
func intoList[T any](id int, out *[]T, of func(*T) reader) reader {
	return func(x ber.Element) error {
		if x.Tag != universal(id) {
			return api.ErrForm
		}
		for _, kid := range x.Kids {
			var one T
			if err := of(&one)(kid); err != nil {
				return err
			}
			*out = append(*out, one)
		}
		return nil
	}
}

// intoFilter reads a filter.
func intoFilter(out *filter.Filter) reader {
	return func(x ber.Element) error {
		f, e := filter.Read(x)
		*out = f
		return demand(e == api.OK)
	}
}

// intoText reads a string.
func intoText(out *string) reader {
	return intoBytes(universal(octets), out)
}

// intoBytes reads the bytes of an element with this identifier.
func intoBytes(t tag.Tag, out *string) reader {
	return func(x ber.Element) error {
		*out = string(x.Bytes)
		return demand(x.Tag == t)
	}
}

// intoNumber reads a number from least to most: an integer, or one that is enumerated.
func intoNumber(id, least, most int, out *int) reader {
	return intoInt(universal(id), least, most, out)
}

// intoInt reads a number from least to most from the bytes of an element with this identifier.
func intoInt(t tag.Tag, least, most int, out *int) reader {
	return func(x ber.Element) error {
		n, e := whole.Read(x.Bytes)
		*out = n
		return demand(x.Tag == t && e == api.OK && within(n, least, most))
	}
}

// intoTruth reads a bool. Put writes true as one byte only, and others mean the same.
func intoTruth(out *bool) reader {
	return func(x ber.Element) error {
		if x.Tag != universal(boolean) || len(x.Bytes) != 1 {
			return api.ErrForm
		}
		*out = x.Bytes[0] != 0
		return nil
	}
}
