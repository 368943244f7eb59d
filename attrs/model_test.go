package attrs_test

import (
	"slices"

	"peerage/api"
	"peerage/attrs"
	"peerage/dn"
	"peerage/schema"
)

// The limits as the document states them; TestLimits holds api's against them.
const (
	maxAttrs  = 24
	maxValues = 32
)

// small returns s with small letters in the place of A to Z alone.
func small(s string) string {
	out := []byte(s)
	for i, c := range out {
		if c >= 'A' && c <= 'Z' {
			out[i] = "abcdefghijklmnopqrstuvwxyz"[c-'A']
		}
	}
	return string(out)
}

// modelFind is P8.2.
func modelFind(s string) (schema.Attribute, bool) {
	for _, a := range schema.Attributes() {
		if small(s) == small(a.Name) || s != "" && small(s) == small(a.Alias) || s == a.Oid {
			return a, true
		}
	}
	return schema.Attribute{}, false
}

// keyOf returns the key of a valid value.
func keyOf(a schema.Attribute, v string) string {
	k, _ := dn.Key(a.Syntax, v)
	return k
}

// among tells whether one of l has the key of v.
func among(a schema.Attribute, l []string, v string) bool {
	for _, x := range l {
		if keyOf(a, x) == keyOf(a, v) {
			return true
		}
	}
	return false
}

// modelValues is what Make and Apply ask of any values: ErrArg, then ErrThere.
func modelValues(a schema.Attribute, l []string) api.Errno {
	for _, v := range l {
		if _, ok := dn.Key(a.Syntax, v); !ok {
			return api.ErrArg
		}
	}
	for i, v := range l {
		if among(a, l[:i], v) {
			return api.ErrThere
		}
	}
	return api.OK
}

// modelLimits is what Make and Apply ask of the number of an attribute's values: ErrState, then ErrBig.
func modelLimits(a schema.Attribute, n int) api.Errno {
	if a.Single && n > 1 {
		return api.ErrState
	}
	if n > maxValues {
		return api.ErrBig
	}
	return api.OK
}

// put returns l with these values of the attribute a, and no others; without the attribute if there are none.
func put(l []attrs.Attr, a schema.Attribute, values []string) []attrs.Attr {
	var before, after []attrs.Attr
	for _, x := range l {
		switch name := small(x.Name); {
		case name < small(a.Name):
			before = append(before, x)
		case name > small(a.Name):
			after = append(after, x)
		}
	}
	if len(values) > 0 {
		values = slices.Clone(values)
		for i := range values {
			for j := i; j > 0 && keyOf(a, values[j]) < keyOf(a, values[j-1]); j-- {
				values[j], values[j-1] = values[j-1], values[j]
			}
		}
		before = append(before, attrs.Attr{Name: a.Name, Values: values})
	}
	return append(before, after...)
}

// valuesIn returns the values of the attribute a.
func valuesIn(l []attrs.Attr, a schema.Attribute) []string {
	for _, x := range l {
		if x.Name == a.Name {
			return x.Values
		}
	}
	return nil
}

// modelMake is P12.1.
func modelMake(l []attrs.Attr) ([]attrs.Attr, api.Errno) {
	var out []attrs.Attr
	for _, x := range l {
		a, ok := modelFind(x.Name)
		if !ok {
			return nil, api.ErrNone
		}
		if len(valuesIn(out, a)) > 0 {
			return nil, api.ErrThere
		}
		if len(x.Values) == 0 {
			return nil, api.ErrForm
		}
		if e := modelValues(a, x.Values); e != api.OK {
			return nil, e
		}
		if e := modelLimits(a, len(x.Values)); e != api.OK {
			return nil, e
		}
		out = put(out, a, x.Values)
	}
	if len(out) > maxAttrs {
		return nil, api.ErrBig
	}
	return out, api.OK
}

// modelChange is what P12.2 states of one change.
func modelChange(l []attrs.Attr, c attrs.Change) ([]attrs.Attr, api.Errno) {
	a, ok := modelFind(c.Type)
	if !ok {
		return nil, api.ErrNone
	}
	if e := modelValues(a, c.Values); e != api.OK {
		return nil, e
	}
	old := valuesIn(l, a)
	var now []string
	switch c.Kind {
	case 0:
		if len(c.Values) == 0 {
			return nil, api.ErrForm
		}
		for _, v := range c.Values {
			if among(a, old, v) {
				return nil, api.ErrThere
			}
		}
		now = slices.Concat(old, c.Values)
	case 1:
		if len(old) == 0 {
			return nil, api.ErrStale
		}
		for _, v := range c.Values {
			if !among(a, old, v) {
				return nil, api.ErrStale
			}
		}
		for _, v := range old {
			if len(c.Values) > 0 && !among(a, c.Values, v) {
				now = append(now, v)
			}
		}
	case 2:
		now = c.Values
	default:
		return nil, api.ErrForm
	}
	if e := modelLimits(a, len(now)); e != api.OK {
		return nil, e
	}
	return put(l, a, now), api.OK
}

// modelApply is P12.2.
func modelApply(l []attrs.Attr, changes []attrs.Change) ([]attrs.Attr, api.Errno) {
	for _, c := range changes {
		var e api.Errno
		if l, e = modelChange(l, c); e != api.OK {
			return nil, e
		}
	}
	if len(l) > maxAttrs {
		return nil, api.ErrBig
	}
	return l, api.OK
}
