package acl_test

import (
	"fmt"
	"regexp"
	"slices"
	"strings"

	"peerage/acl"
	"peerage/api"
	"peerage/dn"
	"peerage/schema"
)

// The limits as the chapter states them.
const (
	maxBytes = 65536
	maxRules = 64
)

// rightLetters are the rights with their letters, in the order of a line.
var rightLetters = []struct {
	right  int
	letter string
}{{1, "r"}, {2, "s"}, {4, "c"}, {8, "w"}, {16, "a"}, {32, "d"}, {64, "n"}}

// whoTexts are the kinds of subjects as they stand in a line.
var whoTexts = map[int]string{0: "anyone", 1: "anonymous", 2: "known", 3: "self", 4: "one=", 5: "below=", 6: "group="}

// lineForm is the form of a line, before its names, its attribute and its letters are looked at.
var lineForm = regexp.MustCompile(`(?s)\A(allow|deny)\|(?:(anyone|anonymous|known|self)|(one|below|group)=([^|]*))\|([^|]*)\|([^|]*)\|([rscwadn]*)\z`)

// modelKey tells whether s is a key that a rule may have.
func modelKey(s string) bool {
	k, e := dn.Of(s)
	return e == api.OK && k == s && !strings.Contains(s, "|") && !strings.Contains(s, "\n")
}

// modelRight is what the chapter calls valid.
func modelRight(x acl.Rule) bool {
	switch x.Who {
	case 0, 1, 2, 3:
		if x.Subject != "" {
			return false
		}
	case 4, 5, 6:
		if x.Subject == "" || !modelKey(x.Subject) {
			return false
		}
	default:
		return false
	}
	names := []string{""}
	for _, a := range schema.Attributes() {
		names = append(names, a.Name)
	}
	return modelKey(x.Base) && slices.Contains(names, x.Attr) && x.Rights >= 1 && x.Rights <= 127
}

// modelLine returns the line of a valid rule.
func modelLine(x acl.Rule) string {
	verdict := map[bool]string{false: "deny", true: "allow"}[x.Allow]
	attr := x.Attr
	if attr == "" {
		attr = "*"
	}
	letters := ""
	for _, r := range rightLetters {
		if x.Rights/r.right%2 == 1 {
			letters += r.letter
		}
	}
	return fmt.Sprintf("%s|%s%s|%s|%s|%s", verdict, whoTexts[x.Who], x.Subject, x.Base, attr, letters)
}

// modelText is P17.1.
func modelText(l []acl.Rule) string {
	out := ""
	for _, x := range l {
		if modelRight(x) {
			out += modelLine(x) + "\n"
		}
	}
	return out
}

// modelRule returns the rule of a line, and whether there is one.
func modelRule(s string) (acl.Rule, bool) {
	m := lineForm.FindStringSubmatch(s)
	if m == nil {
		return acl.Rule{}, false
	}
	x := acl.Rule{Allow: m[1] == "allow"}
	for who, text := range whoTexts {
		if text == m[2] || text == m[3]+"=" {
			x.Who = who
		}
	}
	var bad, badBase api.Errno
	x.Subject, bad = dn.Of(m[4])
	x.Base, badBase = dn.Of(m[5])
	if bad != api.OK || badBase != api.OK {
		return acl.Rule{}, false
	}
	if m[6] != "*" {
		a, ok := schema.Find(m[6])
		if !ok {
			return acl.Rule{}, false
		}
		x.Attr = a.Name
	}
	for _, r := range rightLetters {
		switch strings.Count(m[7], r.letter) {
		case 0:
		case 1:
			x.Rights += r.right
		default:
			return acl.Rule{}, false
		}
	}
	if !modelRight(x) {
		return acl.Rule{}, false
	}
	return x, true
}

// modelParse is P17.2.
func modelParse(s string) ([]acl.Rule, int, api.Errno) {
	if len(s) > maxBytes {
		return nil, 0, api.ErrBig
	}
	var l []acl.Rule
	for number := 1; s != ""; number++ {
		line, rest, _ := strings.Cut(s, "\n")
		s = rest
		if line == "" {
			continue
		}
		x, ok := modelRule(line)
		if !ok {
			return nil, number, api.ErrForm
		}
		l = append(l, x)
	}
	if len(l) > maxRules {
		return nil, 0, api.ErrBig
	}
	return l, 0, api.OK
}

// modelUnder tells whether the name with the key k has the key base or is below it: whether one of the levels or none can be taken from it, one after the other, so that base is left.
func modelUnder(k, base string) bool {
	for {
		if k == base {
			return true
		}
		if k == "" {
			return false
		}
		_, k = dn.Split(k)
	}
}

// modelApplies tells whether a valid rule applies.
func modelApplies(x acl.Rule, a acl.Asker, key, attr string, right int) bool {
	contained := false
	for _, r := range rightLetters {
		contained = contained || r.right == right && x.Rights/r.right%2 == 1
	}
	if !contained || !modelUnder(key, x.Base) || x.Attr != "" && x.Attr != attr {
		return false
	}
	bound := a.Key != ""
	return []bool{
		true, !bound, bound, bound && a.Key == key, a.Key == x.Subject, bound && modelUnder(a.Key, x.Subject), slices.Contains(a.Groups, x.Subject),
	}[x.Who]
}

// modelDecide is P17.3.
func modelDecide(l []acl.Rule, a acl.Asker, key, attr string, right int) bool {
	for _, x := range l {
		if modelRight(x) && modelApplies(x, a, key, attr, right) {
			return x.Allow
		}
	}
	return false
}

// modelGroups is P17.4.
func modelGroups(l []acl.Rule) []string {
	found := map[string]bool{}
	for _, x := range l {
		if modelRight(x) && x.Who == 6 {
			found[x.Subject] = true
		}
	}
	var out []string
	for s := range found {
		out = append(out, s)
	}
	slices.Sort(out)
	return out
}
