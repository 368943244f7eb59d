package truth_test

import (
	"math"
	"math/big"
	"regexp"
	"slices"
	"strconv"
	"strings"

	"peerage/dn"
	"peerage/entry"
	"peerage/filter"
	"peerage/schema"
	"peerage/truth"
)

// set is which values of two a filter may have: what is Undefined may be either.
type set struct{ no, yes bool }

// setOf returns the set of a value.
func setOf(n int) set {
	return set{no: n != truth.True, yes: n != truth.False}
}

// one returns the set of one value.
func one(yes bool) set {
	return set{no: !yes, yes: yes}
}

// number returns the value of a set.
func (s set) number() int {
	return map[set]int{{true, false}: truth.False, {false, true}: truth.True, {true, true}: truth.Undefined}[s]
}

// members returns the values of a set.
func (s set) members() []bool {
	var l []bool
	if s.no {
		l = append(l, false)
	}
	if s.yes {
		l = append(l, true)
	}
	return l
}

// lifted returns the values that of returns for those of a and b.
func lifted(a, b set, of func(x, y bool) bool) set {
	var out set
	for _, x := range a.members() {
		for _, y := range b.members() {
			if of(x, y) {
				out.yes = true
			} else {
				out.no = true
			}
		}
	}
	return out
}

// The two-valued logic.
func and(x, y bool) bool  { return x && y }
func or(x, y bool) bool   { return x || y }
func nand(x, y bool) bool { return !and(x, y) }

// modelEval is P15.2.
func modelEval(f filter.Filter, e entry.Entry, hidden []string) int {
	if !filter.Right(f) {
		return truth.Undefined
	}
	return modelSet(f, e, hidden).number()
}

// modelSet is P15.2 for a valid filter.
func modelSet(f filter.Filter, e entry.Entry, hidden []string) set {
	var out set
	switch f.Kind {
	case filter.And:
		out = one(true)
		for _, kid := range f.Kids {
			out = lifted(out, modelSet(kid, e, hidden), and)
		}
	case filter.Or:
		out = one(false)
		for _, kid := range f.Kids {
			out = lifted(out, modelSet(kid, e, hidden), or)
		}
	case filter.Not:
		out = lifted(modelSet(f.Kids[0], e, hidden), one(true), nand)
	default:
		out = modelLeaf(f, e, hidden)
	}
	return out
}

// modelAttribute returns the attribute that a Type means.
func modelAttribute(about string) (schema.Attribute, bool) {
	base, _, _ := strings.Cut(about, ";")
	for _, a := range schema.Attributes() {
		if strings.EqualFold(base, a.Name) || a.Alias != "" && strings.EqualFold(base, a.Alias) || base == a.Oid {
			return a, true
		}
	}
	return schema.Attribute{}, false
}

// modelLeaf is P15.2 for a valid filter without kids.
func modelLeaf(f filter.Filter, e entry.Entry, hidden []string) set {
	a, ok := modelAttribute(f.Type)
	if !ok || slices.Contains(hidden, a.Name) {
		return setOf(truth.Undefined)
	}
	if strings.Contains(f.Type, ";") {
		return one(false)
	}
	key, valid := dn.Key(a.Syntax, f.Value)
	var fits func(k string) bool
	switch f.Kind {
	case filter.Present:
		fits = func(k string) bool { return true }
	case filter.Equal, filter.Like:
		if !valid {
			return setOf(truth.Undefined)
		}
		fits = func(k string) bool { return k == key }
	case filter.Least, filter.Most:
		if !valid || slices.Contains([]int{schema.Truth, schema.Object, schema.Name}, a.Syntax) {
			return setOf(truth.Undefined)
		}
		fits = func(k string) bool {
			c := modelOrder(a.Syntax, k, key)
			return c == 0 || c < 0 && f.Kind == filter.Most || c > 0 && f.Kind == filter.Least
		}
	case filter.Sought:
		if !slices.Contains([]int{schema.Words, schema.Exact, schema.Numeric}, a.Syntax) {
			return setOf(truth.Undefined)
		}
		fits = modelPattern(a.Syntax, f).MatchString
	}
	for _, x := range e.Attrs {
		for _, v := range x.Values {
			if k, _ := dn.Key(a.Syntax, v); x.Name == a.Name && fits(k) {
				return one(true)
			}
		}
	}
	return one(false)
}

// modelOrder compares the keys of two values of a syntax that has an order.
func modelOrder(syntax int, a, b string) int {
	switch syntax {
	case schema.Whole:
		x, _ := new(big.Int).SetString(a, 10)
		y, _ := new(big.Int).SetString(b, 10)
		return x.Cmp(y)
	case schema.Real:
		return floatOrder(a, b)
	}
	return strings.Compare(a, b)
}

// floatOrder compares two numbers by their digits: a NaN is greater than all others.
func floatOrder(a, b string) int {
	if a == b {
		return 0
	}
	x, y := floatOf(a), floatOf(b)
	if y != y || x < y {
		return -1
	}
	return 1
}

// floatOf returns the number whose bits have these digits.
func floatOf(s string) float64 {
	bits, _ := strconv.ParseUint(s, 16, 64)
	return math.Float64frombits(bits)
}

// runs are what has the place of one blank in a normalized string.
var runs = regexp.MustCompile(`[ \t\n]+`)

// modelPart returns a part of a Sought filter, of the characters that the tests have in parts, as it is sought.
func modelPart(syntax int, s string) string {
	if syntax == schema.Numeric {
		return strings.ReplaceAll(s, " ", "")
	}
	if strings.Contains(s, "\xff") {
		return s
	}
	s = runs.ReplaceAllString(strings.ReplaceAll(s, "\x01", ""), " ")
	if syntax == schema.Words {
		return strings.ToLower(s)
	}
	return s
}

// modelPattern returns the pattern of the keys of the values that a Sought filter asks for.
func modelPattern(syntax int, f filter.Filter) *regexp.Regexp {
	parts := []string{strings.TrimPrefix(modelPart(syntax, f.First), " ")}
	for _, s := range f.Between {
		parts = append(parts, modelPart(syntax, s))
	}
	parts = append(parts, strings.TrimSuffix(modelPart(syntax, f.Last), " "))
	for i, s := range parts {
		parts[i] = quoted(s)
	}
	return regexp.MustCompile(`(?s)\A` + strings.Join(parts, ".*") + `\z`)
}

// quoted returns a pattern of s. What is not UTF-8 occurs in no key: a pattern that matches nothing stands for it.
func quoted(s string) string {
	if strings.Contains(s, "\xff") {
		return `[^\x{0}-\x{10ffff}]`
	}
	return regexp.QuoteMeta(s)
}

// modelTypes is P15.3.
func modelTypes(f filter.Filter) []string {
	if !filter.Right(f) {
		return nil
	}
	found := map[string]bool{}
	todo := []filter.Filter{f}
	for len(todo) > 0 {
		next := todo[0]
		todo = append(todo[1:], next.Kids...)
		if a, ok := modelAttribute(next.Type); ok && next.Kind > filter.Not {
			found[a.Name] = true
		}
	}
	var l []string
	for name := range found {
		l = append(l, name)
	}
	slices.Sort(l)
	return l
}
