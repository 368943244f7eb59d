package filter_test

import (
	"bytes"
	"encoding/hex"
	"fmt"
	"regexp"
	"slices"
	"strings"
	"unicode/utf8"

	"peerage/api"
	"peerage/ber"
	"peerage/filter"
	"peerage/oid"
	"peerage/tag"
)

// The limits of the chapter.
const (
	maxText  = 4096
	maxDeep  = 10
	maxCount = 64
)

// isNormal tells whether s is a description in normal form.
func isNormal(s string) bool {
	base, options, ok := oid.Describe(s)
	return ok && oid.Text(base, options) == s
}

// size returns how many filters there are in f, which does not contain itself, and how deep they are nested.
func size(f filter.Filter) (count, depth int) {
	for _, kid := range f.Kids {
		c, d := size(kid)
		count, depth = count+c, max(depth, d)
	}
	return count + 1, depth + 1
}

// modelRight is the definition of validity, for a filter that does not contain itself.
func modelRight(f filter.Filter) bool {
	count, depth := size(f)
	return count <= maxCount && depth <= maxDeep && modelShape(f)
}

// modelShape tells whether f is valid but for the limits.
func modelShape(f filter.Filter) bool {
	allowed := map[int]string{
		filter.And: "K", filter.Or: "K", filter.Not: "K", filter.Equal: "TV", filter.Least: "TV", filter.Most: "TV", filter.Like: "TV", filter.Present: "T", filter.Sought: "TFLB",
	}
	fields, ok := allowed[f.Kind]
	if !ok {
		return false
	}
	for field, n := range map[string]int{"K": len(f.Kids), "T": len(f.Type), "V": len(f.Value), "F": len(f.First), "L": len(f.Last), "B": len(f.Between)} {
		if n > 0 && !strings.Contains(fields, field) {
			return false
		}
	}
	for _, kid := range f.Kids {
		if !modelShape(kid) {
			return false
		}
	}
	for _, part := range f.Between {
		if part == "" {
			return false
		}
	}
	switch {
	case f.Kind == filter.Not && len(f.Kids) != 1:
		return false
	case f.Kind == filter.Sought && f.First+f.Last+strings.Join(f.Between, "") == "":
		return false
	}
	return fields == "K" || isNormal(f.Type)
}

// escaped returns s as it stands in a filter.
func escaped(s string) string {
	out := ""
	for i := range len(s) {
		if strings.IndexByte("*()\\\x00", s[i]) >= 0 || s[i] >= 128 && !utf8.ValidString(s) {
			out += fmt.Sprintf("\\%02x", s[i])
		} else {
			out += s[i : i+1]
		}
	}
	return out
}

// modelText is P14.2 for a valid filter.
func modelText(f filter.Filter) string {
	kids := ""
	for _, kid := range f.Kids {
		kids += modelText(kid)
	}
	switch f.Kind {
	case filter.And:
		return "(&" + kids + ")"
	case filter.Or:
		return "(|" + kids + ")"
	case filter.Not:
		return "(!" + kids + ")"
	case filter.Present:
		return "(" + f.Type + "=*)"
	case filter.Sought:
		var parts []string
		for _, s := range slices.Concat([]string{f.First}, f.Between, []string{f.Last}) {
			parts = append(parts, escaped(s))
		}
		return "(" + f.Type + "=" + strings.Join(parts, "*") + ")"
	}
	operator := map[int]string{filter.Equal: "=", filter.Least: ">=", filter.Most: "<=", filter.Like: "~="}[f.Kind]
	return "(" + f.Type + operator + escaped(f.Value) + ")"
}

// The patterns are for strings that have one character for each byte: see spread.
var (
	inner   = regexp.MustCompile(`\([^()]*\)`)
	list    = regexp.MustCompile(`\A\(([&|!])([\x{10000}-\x{10ffff}]*)\)\z`)
	simple  = regexp.MustCompile(`(?s)\A\(([^=]*?)([<>~]?=)(.*)\)\z`)
	value   = regexp.MustCompile(`(?s)\A(?:[^\\*()\x00]|\\[0-9a-fA-F]{2})*\z`)
	escapes = regexp.MustCompile(`\\[0-9a-fA-F]{2}`)
)

// firstToken is the character that stands for the first filter that is found in a text.
const firstToken = 0x10000

// spread returns s with one character for each byte.
func spread(s string) string {
	var out strings.Builder
	for i := range len(s) {
		out.WriteRune(rune(s[i]))
	}
	return out.String()
}

// narrow returns the bytes of a string that has one character for each.
func narrow(wide string) string {
	var out []byte
	for _, c := range wide {
		out = append(out, byte(c))
	}
	return string(out)
}

// modelParse is P14.3. It replaces each filter, the innermost ones first, by one character.
func modelParse(s string) (filter.Filter, api.Errno) {
	if len(s) > maxText {
		return filter.Filter{}, api.ErrBig
	}
	var found []filter.Filter
	wide := spread(s)
	for {
		at := inner.FindStringIndex(wide)
		if at == nil {
			break
		}
		f, ok := modelOne(wide[at[0]:at[1]], found)
		if !ok {
			return filter.Filter{}, api.ErrForm
		}
		wide = wide[:at[0]] + string(rune(firstToken+len(found))) + wide[at[1]:]
		found = append(found, f)
	}
	if len(found) == 0 || wide != string(rune(firstToken+len(found)-1)) || !modelRight(found[len(found)-1]) {
		return filter.Filter{}, api.ErrForm
	}
	return found[len(found)-1], api.OK
}

// modelOne returns the filter whose text is s, where characters stand for those in it.
func modelOne(s string, found []filter.Filter) (filter.Filter, bool) {
	if m := list.FindStringSubmatch(s); m != nil {
		f := filter.Filter{Kind: strings.Index("&|!", m[1])}
		for _, c := range m[2] {
			f.Kids = append(f.Kids, found[c-firstToken])
		}
		return f, true
	}
	m := simple.FindStringSubmatch(s)
	if m == nil || strings.ContainsFunc(s, func(c rune) bool { return c >= firstToken }) {
		return filter.Filter{}, false
	}
	base, options, ok := oid.Describe(narrow(m[1]))
	f := filter.Filter{Kind: map[string]int{"=": filter.Equal, ">=": filter.Least, "<=": filter.Most, "~=": filter.Like}[m[2]], Type: oid.Text(base, options)}
	var parts []string
	for _, part := range strings.Split(m[3], "*") {
		ok = ok && value.MatchString(part)
		parts = append(parts, narrow(escapes.ReplaceAllStringFunc(part, func(digits string) string {
			b, err := hex.DecodeString(digits[1:])
			ok = ok && err == nil
			return spread(string(b))
		})))
	}
	switch {
	case len(parts) == 1:
		f.Value = parts[0]
	case f.Kind != filter.Equal:
		ok = false
	case m[3] == "*":
		f.Kind = filter.Present
	default:
		f.Kind, f.First, f.Last = filter.Sought, parts[0], parts[len(parts)-1]
		f.Between = append(f.Between, parts[1:len(parts)-1]...)
	}
	return f, ok
}

// bytesOf returns an element of bytes.
func bytesOf(class, number int, s string) ber.Element {
	return ber.Element{Tag: tag.Tag{Class: class, Number: number}, Bytes: []byte(s)}
}

// madeOf returns an element of elements.
func madeOf(class, number int, kids ...ber.Element) ber.Element {
	return ber.Element{Tag: tag.Tag{Class: class, Made: true, Number: number}, Kids: kids}
}

// modelPut is P14.4 for a valid filter, or for one that is so but for its Types.
func modelPut(f filter.Filter) ber.Element {
	var kids []ber.Element
	for _, kid := range f.Kids {
		kids = append(kids, modelPut(kid))
	}
	about := bytesOf(tag.Universal, 4, f.Type)
	switch f.Kind {
	case filter.And, filter.Or, filter.Not:
		return madeOf(tag.Context, f.Kind, kids...)
	case filter.Present:
		return bytesOf(tag.Context, f.Kind, f.Type)
	case filter.Sought:
		var parts []ber.Element
		if f.First != "" {
			parts = append(parts, bytesOf(tag.Context, 0, f.First))
		}
		for _, s := range f.Between {
			parts = append(parts, bytesOf(tag.Context, 1, s))
		}
		if f.Last != "" {
			parts = append(parts, bytesOf(tag.Context, 2, f.Last))
		}
		return madeOf(tag.Context, f.Kind, about, madeOf(tag.Universal, 16, parts...))
	}
	return madeOf(tag.Context, f.Kind, about, bytesOf(tag.Universal, 4, f.Value))
}

// modelRead is P14.5 for an element that does not contain itself: it guesses the filter, and puts it to find out whether it is that of x.
func modelRead(x ber.Element) (filter.Filter, api.Errno) {
	f := guess(x)
	if !sameElement(modelPut(f), x) || !describe(&f) || !modelRight(f) {
		return filter.Filter{}, api.ErrForm
	}
	return f, api.OK
}

// guess returns a filter with what x has where the element of a filter would have it.
func guess(x ber.Element) filter.Filter {
	f := filter.Filter{Kind: x.Tag.Number}
	switch {
	case f.Kind <= filter.Not:
		for _, kid := range x.Kids {
			f.Kids = append(f.Kids, guess(kid))
		}
	case f.Kind == filter.Present:
		f.Type = string(x.Bytes)
	case len(x.Kids) > 1:
		f.Type, f.Value = string(x.Kids[0].Bytes), string(x.Kids[1].Bytes)
		for _, part := range x.Kids[1].Kids {
			switch part.Tag.Number {
			case 0:
				f.First = string(part.Bytes)
			case 1:
				f.Between = append(f.Between, string(part.Bytes))
			case 2:
				f.Last = string(part.Bytes)
			}
		}
	}
	return f
}

// describe brings the Types of f to their normal form, and tells whether all are descriptions.
func describe(f *filter.Filter) bool {
	for i := range f.Kids {
		if !describe(&f.Kids[i]) {
			return false
		}
	}
	if f.Kind <= filter.Not {
		return true
	}
	base, options, ok := oid.Describe(f.Type)
	f.Type = oid.Text(base, options)
	return ok
}

// sameElement tells whether a and b are equal.
func sameElement(a, b ber.Element) bool {
	return a.Tag == b.Tag && bytes.Equal(a.Bytes, b.Bytes) && slices.EqualFunc(a.Kids, b.Kids, sameElement)
}

// equal tells whether a and b are equal; they do not contain themselves.
func equal(a, b filter.Filter) bool {
	return a.Kind == b.Kind && slices.EqualFunc(a.Kids, b.Kids, equal) && a.Type == b.Type && a.Value == b.Value && a.First == b.First && a.Last == b.Last && slices.Equal(a.Between, b.Between)
}
