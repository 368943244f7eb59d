package entry_test

import (
	"slices"

	"peerage/api"
	"peerage/attrs"
	"peerage/dn"
	"peerage/entry"
	"peerage/schema"
)

// maxMessage is how many bytes an entry may have; TestLimits holds api's against it.
const maxMessage = 16384

// block returns an element: its first byte, the number of the bytes of its content, and these.
func block(first byte, content ...[]byte) []byte {
	all := slices.Concat(content...)
	n := len(all)
	switch {
	case n < 1<<7:
		return append([]byte{first, byte(n)}, all...)
	case n < 1<<8:
		return append([]byte{first, 0x81, byte(n)}, all...)
	case n < 1<<16:
		return append([]byte{first, 0x82, byte(n >> 8), byte(n)}, all...)
	}
	return append([]byte{first, 0x83, byte(n >> 16), byte(n >> 8), byte(n)}, all...)
}

// number returns the bytes of a number that is not negative.
func number(n int) []byte {
	var b []byte
	for {
		b = append([]byte{byte(n)}, b...)
		if n < 128 {
			return b
		}
		// The first bit is the sign: a byte that has it set needs a zero before it.
		n >>= 8
	}
}

// modelBytes is the encoding of P13.3.
func modelBytes(e entry.Entry) []byte {
	var list [][]byte
	for _, a := range e.Attrs {
		var values [][]byte
		for _, v := range a.Values {
			values = append(values, block(0x04, []byte(v)))
		}
		list = append(list, block(0x30, block(0x04, []byte(a.Name)), block(0x31, values...)))
	}
	return block(0x30, block(0x04, []byte(e.Key)), block(0x04, []byte(e.Name)), block(0x02, number(e.Version)), block(0x30, list...))
}

// modelCheck is P13.1.
func modelCheck(e entry.Entry) api.Errno {
	var classes, names []string
	for _, a := range e.Attrs {
		names = append(names, a.Name)
		if a.Name == "objectClass" {
			classes = a.Values
		}
	}
	if schema.Check(classes, names) != api.OK {
		return api.ErrHeld
	}
	level, _ := dn.Split(e.Key)
	for _, p := range dn.Pairs(level) {
		if !attrs.Has(e.Attrs, p.Type, p.Value) {
			return api.ErrStale
		}
	}
	return api.OK
}

// modelNew is P13.2.
func modelNew(key, name string, version int, l []attrs.Attr) (entry.Entry, api.Errno) {
	m, bad := attrs.Make(l)
	if bad != api.OK {
		return entry.Entry{}, bad
	}
	if k, bad := dn.Of(name); bad != api.OK || k != key || len(key) == 0 {
		return entry.Entry{}, api.ErrForm
	}
	if version < 0 {
		return entry.Entry{}, api.ErrArg
	}
	e := entry.Entry{Key: key, Name: name, Version: version, Attrs: m}
	if bad := modelCheck(e); bad != api.OK {
		return entry.Entry{}, bad
	}
	if len(modelBytes(e)) > maxMessage {
		return entry.Entry{}, api.ErrBig
	}
	return e, api.OK
}

// modelPut is what P13.3 states of Put.
func modelPut(e entry.Entry) ([]byte, api.Errno) {
	l, bad := attrs.Make(e.Attrs)
	if bad != api.OK || !equalLists(l, e.Attrs) {
		return nil, api.ErrArg
	}
	switch _, bad := modelNew(e.Key, e.Name, e.Version, e.Attrs); bad {
	case api.OK:
		return modelBytes(e), api.OK
	case api.ErrBig:
		return nil, api.ErrBig
	}
	return nil, api.ErrArg
}

// equalLists tells whether two lists have the same attributes.
func equalLists(a, b []attrs.Attr) bool {
	return slices.EqualFunc(a, b, func(x, y attrs.Attr) bool { return x.Name == y.Name && slices.Equal(x.Values, y.Values) })
}

// equal tells whether two entries are equal.
func equal(a, b entry.Entry) bool {
	return a.Key == b.Key && a.Name == b.Name && a.Version == b.Version && equalLists(a.Attrs, b.Attrs)
}

// modelMembers is what P13.4 states of Members.
func modelMembers(e entry.Entry) []string {
	var keys []string
	for _, a := range e.Attrs {
		if a.Name != "member" {
			continue
		}
		for _, v := range a.Values {
			k, _ := dn.Key(schema.Name, v)
			keys = append(keys, k)
			for i := len(keys) - 1; i > 0 && keys[i] < keys[i-1]; i-- {
				keys[i], keys[i-1] = keys[i-1], keys[i]
			}
		}
	}
	return keys
}
