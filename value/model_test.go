package value_test

import (
	"cmp"
	"math"
	"math/big"
	"regexp"
	"slices"
	"strconv"
	"strings"
	"unicode/utf8"

	"peerage/schema"
	"peerage/value"
)

// maxText is the limit as the document states it; TestLimit holds api's against it.
const maxText = 512

// What chapters 2, 5, 6 and 7 state of strings.
var (
	ignoredForm = regexp.MustCompile(`[\x00-\x08\x0e-\x1f\x7f\x{ad}\x{200b}]`)
	whiteForm   = regexp.MustCompile(`[\t-\r \x{85}\x{a0}]+`)
	capitalForm = regexp.MustCompile(`[A-ZÀ-ÖØ-Þ]`)
	wholeForm   = regexp.MustCompile(`\A-?[0-9]+\z`)
	numericForm = regexp.MustCompile(`\A *[0-9][0-9 ]*\z`)
	realForm    = regexp.MustCompile(`\A[0-9a-fA-F]{16}\z`)
	wordForm    = regexp.MustCompile(`\A[a-zA-Z][a-zA-Z0-9-]{0,63}\z`)
	oidForm     = regexp.MustCompile(`\A([01]\.[1-3]?[0-9]|2\.(0|[1-9][0-9]{0,9}))(\.(0|[1-9][0-9]{0,9})){0,14}\z`)
)

// classIds has the identifiers of the classes by their keys.
var classIds = map[string]string{
	"top": "2.5.6.0", "country": "2.5.6.2", "organization": "2.5.6.4", "organizationalunit": "2.5.6.5", "person": "2.5.6.6", "inetorgperson": "2.16.840.1.113730.3.2.2",
	"group": "1.3.6.1.4.1.99999.3.1", "device": "2.5.6.14", "dcobject": "1.3.6.1.4.1.1466.344", "login": "1.3.6.1.4.1.99999.3.2",
}

// modelPiece is P9.4 for Words, and for Exact where letters stay.
func modelPiece(s string, letters bool) string {
	if !utf8.ValidString(s) {
		return s
	}
	s = whiteForm.ReplaceAllString(ignoredForm.ReplaceAllString(s, ""), " ")
	if letters {
		return s
	}
	return capitalForm.ReplaceAllStringFunc(s, func(capital string) string {
		return string([]rune(capital)[0] + 32)
	})
}

// modelText is P9.1 for Words and Exact.
func modelText(v string, letters bool) (string, bool) {
	text := strings.TrimPrefix(strings.TrimSuffix(modelPiece(v, letters), " "), " ")
	return text, text != "" && utf8.ValidString(v)
}

// number returns the number of v, which is a whole one.
func number(v string) *big.Int {
	n, _ := new(big.Int).SetString(v, 10)
	return n
}

// modelReal is P9.1 for Real.
func modelReal(v string) (string, bool) {
	if !realForm.MatchString(v) {
		return "", false
	}
	switch size := bits(v) &^ (1 << 63); {
	case size == 0:
		return "0000000000000000", true
	case size > 0x7ff0000000000000:
		return "7ff8000000000000", true
	}
	return strings.ToLower(v), true
}

// bits returns the bits of v, which is a floating-point number.
func bits(v string) uint64 {
	n, _ := strconv.ParseUint(v, 16, 64)
	return n
}

// rank returns a number that is greater for greater floating-point numbers.
func rank(v string) int64 {
	size := int64(bits(v) &^ (1 << 63))
	if size > 0x7ff0000000000000 {
		return math.MaxInt64
	}
	if bits(v)>>63 == 1 {
		return -size
	}
	return size
}

// modelObject is P9.1 for Object.
func modelObject(v string) (string, bool) {
	if oidForm.MatchString(v) {
		for name, id := range classIds {
			if id == v {
				return name, true
			}
		}
		return v, true
	}
	return strings.ToLower(v), wordForm.MatchString(v)
}

// modelKey is P9.1.
func modelKey(syntax int, v string) (string, bool) {
	k, ok := "", false
	switch syntax {
	case schema.Words:
		k, ok = modelText(v, false)
	case schema.Exact:
		k, ok = modelText(v, true)
	case schema.Whole:
		if ok = wholeForm.MatchString(v); ok {
			k = number(v).String()
		}
	case schema.Truth:
		k, ok = v, slices.Contains([]string{"TRUE", "FALSE"}, v)
	case schema.Octets:
		k, ok = v, true
	case schema.Numeric:
		k, ok = strings.ReplaceAll(v, " ", ""), numericForm.MatchString(v)
	case schema.Real:
		k, ok = modelReal(v)
	case schema.Object:
		k, ok = modelObject(v)
	}
	if !ok || len(v) > maxText {
		return "", false
	}
	return k, true
}

// modelOrder is P9.3.
func modelOrder(syntax int, a, b string) (int, bool) {
	k, okA := modelKey(syntax, a)
	l, okB := modelKey(syntax, b)
	if !okA || !okB {
		return 0, false
	}
	switch syntax {
	case schema.Truth, schema.Object:
		return 0, false
	case schema.Whole:
		return number(a).Cmp(number(b)), true
	case schema.Real:
		return cmp.Compare(rank(a), rank(b)), true
	}
	return slices.Compare([]byte(k), []byte(l)), true
}

// modelParts is p as P9.4 normalizes it; false if nothing is sought in values of the syntax.
func modelParts(syntax int, p value.Parts) (first string, between []string, last string, ok bool) {
	normalize := func(s string) string { return modelPiece(s, syntax == schema.Exact) }
	switch syntax {
	case schema.Numeric:
		normalize = func(s string) string { return strings.Join(strings.Split(s, " "), "") }
	case schema.Words, schema.Exact:
	default:
		return "", nil, "", false
	}
	first, last = normalize(p.First), normalize(p.Last)
	if first != "" && first[0] == ' ' {
		first = first[1:]
	}
	if last != "" && last[len(last)-1] == ' ' {
		last = last[:len(last)-1]
	}
	for _, s := range p.Between {
		between = append(between, normalize(s))
	}
	return first, between, last, true
}

// modelSought is P9.4, step by step.
func modelSought(syntax int, v string, p value.Parts) (is, ok bool) {
	k, valid := modelKey(syntax, v)
	first, between, last, ok := modelParts(syntax, p)
	if !valid || !ok {
		return false, false
	}
	if len(first) > len(k) || k[:len(first)] != first {
		return false, true
	}
	at := len(first)
	for _, s := range between {
		for at+len(s) <= len(k) && k[at:at+len(s)] != s {
			at++
		}
		if at += len(s); at > len(k) {
			return false, true
		}
	}
	return at+len(last) <= len(k) && k[len(k)-len(last):] == last, true
}

// modelArranged tells whether the parts can be found one after the other at any places at all. They must be valid UTF-8.
func modelArranged(syntax int, v string, p value.Parts) (is, ok bool) {
	k, valid := modelKey(syntax, v)
	first, between, last, ok := modelParts(syntax, p)
	if !valid || !ok {
		return false, false
	}
	form := `(?s)\A` + regexp.QuoteMeta(first)
	for _, s := range between {
		form += `.*` + regexp.QuoteMeta(s)
	}
	return regexp.MustCompile(form + `.*` + regexp.QuoteMeta(last) + `\z`).MatchString(k), true
}
