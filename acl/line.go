package acl

import (
	"strings"

	"peerage/api"
)

// The limits of the text of rules.
const (
	maxBytes = 65536
	maxRules = 64
)

// What the lines of rules consist of.
const (
	newline = "\n" // ends a line
	bar     = "|"  // stands between the parts of a line
	parts   = 5    // of a line

	allow    = "allow"
	deny     = "deny"
	allAttrs = "*"
	letters  = "rscwadn" // of the rights, from the lowest bit on
)

// whoWords holds what the second part of a line is for each kind of subjects, up to the Subject.
var whoWords = [...]string{
	Anyone:    "anyone",
	Anonymous: "anonymous",
	Known:     "known",
	Self:      "self",
	One:       "one=",
	Below:     "below=",
	Group:     "group=",
}

// No valid rule has this kind, or these rights.
const (
	noWho    = -1
	noRights = 0
)

// Text returns the lines of the valid rules of l.
func Text(l []Rule) string {
	var out strings.Builder
	for _, x := range l {
		if Right(x) {
			out.WriteString(line(x))
			out.WriteString(newline)
		}
	}
	return out.String()
}

// line returns the line of x, which is valid.
func line(x Rule) string {
	verdict, attr := deny, x.Attr
	if x.Allow {
		verdict = allow
	}
	if attr == "" {
		attr = allAttrs
	}
	return strings.Join([]string{verdict, whoWords[x.Who] + x.Subject, x.Base, attr, lettersOf(x.Rights)}, bar)
}

// lettersOf returns the letters of rights.
func lettersOf(rights int) string {
	var out strings.Builder
	for i := range len(letters) {
		if rights&(1<<i) != 0 {
			out.WriteByte(letters[i])
		}
	}
	return out.String()
}

// Parse returns the rules of the lines of s. With ErrForm, it returns the number of the first line that is wrong.
func Parse(s string) ([]Rule, int, api.Errno) {
	if len(s) > maxBytes {
		return nil, 0, api.ErrBig
	}
	var l []Rule
	for i, text := range strings.Split(s, newline) {
		if text == "" {
			continue
		}
		x, ok := readLine(text)
		if !ok {
			return nil, i + 1, api.ErrForm
		}
		l = append(l, x)
	}
	if len(l) > maxRules {
		return nil, 0, api.ErrBig
	}
	return l, 0, api.OK
}

// readLine returns the valid rule whose line is s, and true; nothing and false if there is none.
func readLine(s string) (Rule, bool) {
	l := strings.Split(s, bar)
	if len(l) != parts {
		return Rule{}, false
	}
	verdict, who, base, attr, rights := l[0], l[1], l[2], l[3], l[4]
	// A part that is empty means no attributes, where a Rule that has an empty Attr means all.
	if verdict != allow && verdict != deny || attr == "" {
		return Rule{}, false
	}
	if attr == allAttrs {
		attr = ""
	}
	x := Rule{Allow: verdict == allow, Base: base, Attr: attr, Rights: readRights(rights)}
	x.Who, x.Subject = readWho(who)
	return normal(x)
}

// readWho returns the kind of subjects and the Subject that s says, with the name as it is written; noWho if it says none.
func readWho(s string) (int, string) {
	for who, word := range whoWords {
		subject, ok := strings.CutPrefix(s, word)
		if ok && (subject == "" || hasSubject(who)) {
			return who, subject
		}
	}
	return noWho, ""
}

// readRights returns the rights whose letters are s, in any order; noRights if s has another byte, or one of them twice.
func readRights(s string) int {
	rights := noRights
	for i := range len(s) {
		at := strings.IndexByte(letters, s[i])
		if at < 0 || rights&(1<<at) != 0 {
			return noRights
		}
		rights |= 1 << at
	}
	return rights
}
