package view_test

import (
	"slices"

	"peerage/acl"
	"peerage/attrs"
	"peerage/entry"
	"peerage/oid"
	"peerage/schema"
)

// modelMay is P18.1.
func modelMay(l []Rule, a Asker, key string, rights []int) bool {
	permitted := 0
	for _, right := range rights {
		if acl.Decide(l, a, key, "", right) {
			permitted++
		}
	}
	return permitted == len(rights)
}

// modelHidden is P18.1.
func modelHidden(l []Rule, a Asker, key string, types []string) []string {
	return slices.DeleteFunc(slices.Clone(types), func(name string) bool {
		return acl.Decide(l, a, key, name, acl.Search)
	})
}

// modelWritings returns what stands for the attribute with this Name in a list of what is wanted, in small letters: no description of at most 64 bytes without options is anything else.
func modelWritings(name string) []string {
	out := []string{"*"}
	for _, a := range schema.Attributes() {
		if a.Name == name {
			out = append(out, oid.Lower(a.Name), a.Oid)
			if a.Alias != "" {
				out = append(out, oid.Lower(a.Alias))
			}
		}
	}
	return out
}

// modelWants is P18.2.
func modelWants(wanted []string, name string) bool {
	found := len(wanted) == 0
	writings := modelWritings(name)
	for _, s := range wanted {
		for _, w := range writings {
			found = found || oid.Lower(s) == w
		}
	}
	return found
}

// modelShown is P18.3.
func modelShown(l []Rule, a Asker, e entry.Entry, wanted []string, bare bool) []attrs.Attr {
	var out []attrs.Attr
	for _, x := range e.Attrs {
		if !modelWants(wanted, x.Name) {
			continue
		}
		if !acl.Decide(l, a, e.Key, x.Name, 1) {
			continue
		}
		if bare {
			x.Values = nil
		}
		out = append(out, x)
	}
	return out
}

// modelSeen is P18.4.
func modelSeen(l []Rule, a Asker, e entry.Entry) (entry.Entry, bool) {
	if !acl.Decide(l, a, e.Key, "", 1) && !acl.Decide(l, a, e.Key, "", 2) {
		return entry.Entry{}, false
	}
	all := e.Attrs
	e.Attrs = nil
	for _, x := range all {
		may := map[bool]int{}
		for _, right := range []int{1, 2, 4} {
			may[acl.Decide(l, a, e.Key, x.Name, right)]++
		}
		if may[true] > 0 {
			e.Attrs = append(e.Attrs, x)
		}
	}
	return e, true
}
