package dn_test

import (
	"regexp"
	"slices"
	"strings"

	"peerage/api"
	"peerage/dn"
	"peerage/escape"
	"peerage/schema"
	"peerage/value"
)

// The limits as the document states them; TestLimits holds api's against them.
const (
	maxBytes = 1024
	maxText  = 512
	maxRdns  = 12
	maxPairs = 4
)

// The patterns are for strings that have one character for each byte: see spread.
var (
	// pairForm is a pair of P11.1, whose value is not decoded yet.
	pairForm = regexp.MustCompile(`(?s)\A *([^ =]*) *=((?:\\.|[^\\"+,;<>=])*)`)
	wordForm = regexp.MustCompile(`\A[a-zA-Z][a-zA-Z0-9-]{0,63}\z`)
	oidForm  = regexp.MustCompile(`\A([01]\.[1-3]?[0-9]|2\.(0|[1-9][0-9]{0,9}))(\.(0|[1-9][0-9]{0,9})){0,14}\z`)
)

// spread returns s with one character for each byte.
func spread(s string) string {
	var out strings.Builder
	for i := range len(s) {
		out.WriteRune(rune(s[i]))
	}
	return out.String()
}

// bytesOf returns the bytes of a string that has one character for each.
func bytesOf(wide string) string {
	var out []byte
	for _, c := range wide {
		out = append(out, byte(c))
	}
	return string(out)
}

// modelParse is P11.1.
func modelParse(s string) (dn.Name, api.Errno) {
	if len(s) > maxBytes {
		return nil, api.ErrBig
	}
	if strings.Count(s, " ") == len(s) {
		return nil, api.OK
	}
	n, tooMany := dn.Name{nil}, false
	for wide := spread(s); ; {
		m := pairForm.FindStringSubmatch(wide)
		if m == nil || !wordForm.MatchString(m[1]) && !oidForm.MatchString(m[1]) {
			return nil, api.ErrForm
		}
		raw := bytesOf(m[2])
		v, size, ok := escape.Read(raw)
		if !ok || size != len(raw) {
			return nil, api.ErrForm
		}
		last := &n[len(n)-1]
		*last = append(*last, api.Pair{Type: m[1], Value: v})
		tooMany = tooMany || len(*last) > maxPairs || len(n) > maxRdns
		wide = wide[len(m[0]):]
		if wide == "" {
			break
		}
		switch wide[0] {
		case ',', ';':
			n = append(n, nil)
		case '+':
		default:
			return nil, api.ErrForm
		}
		wide = wide[1:]
	}
	if tooMany {
		return nil, api.ErrBig
	}
	return n, api.OK
}

// modelText is P11.2.
func modelText(n dn.Name) string {
	out := ""
	for i, l := range n {
		if i > 0 {
			out += ","
		}
		for j, p := range l {
			if j > 0 {
				out += "+"
			}
			out += p.Type + "=" + escape.Put(p.Value)
		}
	}
	return out
}

// attributes has the attributes by all their names in small letters.
var attributes = func() map[string]schema.Attribute {
	m := map[string]schema.Attribute{}
	for _, a := range schema.Attributes() {
		for _, s := range []string{a.Name, a.Alias, a.Oid} {
			if s != "" {
				m[small(s)] = a
			}
		}
	}
	return m
}()

// small returns s with small letters in the place of A to Z alone.
func small(s string) string {
	out := []byte(s)
	for i, c := range out {
		if at := strings.IndexByte("ABCDEFGHIJKLMNOPQRSTUVWXYZ", c); at >= 0 {
			out[i] = "abcdefghijklmnopqrstuvwxyz"[at]
		}
	}
	return string(out)
}

// modelLevels returns the keys of the levels of n, each as a list of its pairs, or an error of P11.3 but the last one.
func modelLevels(n dn.Name) ([][]api.Pair, api.Errno) {
	if len(n) > maxRdns {
		return nil, api.ErrBig
	}
	for _, l := range n {
		if len(l) > maxPairs {
			return nil, api.ErrBig
		}
	}
	for _, l := range n {
		if len(l) == 0 {
			return nil, api.ErrForm
		}
	}
	var levels [][]api.Pair
	for _, l := range n {
		seen := map[string]string{}
		for _, p := range l {
			a, ok := attributes[small(p.Type)]
			if !ok {
				return nil, api.ErrNone
			}
			k, ok := value.Key(a.Syntax, p.Value)
			if _, again := seen[small(a.Name)]; !ok || again {
				return nil, api.ErrArg
			}
			seen[small(a.Name)] = k
		}
		levels = append(levels, inOrder(seen))
	}
	return levels, api.OK
}

// inOrder returns the pairs of a level in the order of their texts.
func inOrder(keys map[string]string) []api.Pair {
	var texts []string
	byText := map[string]api.Pair{}
	for kind, k := range keys {
		text := kind + "=" + escape.Put(k)
		texts = append(texts, text)
		byText[text] = api.Pair{Type: kind, Value: k}
	}
	slices.Sort(texts)
	var l []api.Pair
	for _, text := range texts {
		l = append(l, byText[text])
	}
	return l
}

// modelKeys returns the keys of the name n and of all names above it, the one without levels last, or an error of P11.3.
func modelKeys(n dn.Name) ([]string, api.Errno) {
	levels, e := modelLevels(n)
	if e != api.OK {
		return nil, e
	}
	var keys []string
	for i := range len(levels) + 1 {
		var above dn.Name
		for _, l := range levels[i:] {
			above = append(above, l)
		}
		keys = append(keys, modelText(above))
	}
	if len(keys[0]) > maxBytes {
		return nil, api.ErrBig
	}
	return keys, api.OK
}

// modelNormal is P11.3.
func modelNormal(n dn.Name) (string, api.Errno) {
	keys, e := modelKeys(n)
	if e != api.OK {
		return "", e
	}
	return keys[0], api.OK
}

// modelOf is P11.3.
func modelOf(s string) (string, api.Errno) {
	n, e := modelParse(s)
	if e != api.OK {
		return "", e
	}
	return modelNormal(n)
}

// modelKey is P11.5.
func modelKey(syntax int, v string) (string, bool) {
	if syntax != schema.Name {
		return value.Key(syntax, v)
	}
	k, e := modelOf(v)
	if len(v) > maxText || e != api.OK {
		return "", false
	}
	return k, true
}
