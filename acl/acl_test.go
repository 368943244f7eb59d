package acl_test

import (
	"fmt"
	"math"
	"slices"
	"strings"
	"testing"
	"unsafe"

	"peerage/acl"
	"peerage/api"
	"peerage/dn"
	"peerage/schema"
)

// Rule and Asker are those of acl; the tests have many of them.
type (
	Rule  = acl.Rule
	Asker = acl.Asker
)

// none is no right, or more than one, or a number beyond all of them.
var none = []int{0, 3, 5, 6, 7, 9, 24, 65, 96, 126, 127, 128, 129, 255, 256, 1 << 31, 1 << 32, 1<<32 + 1, 1 << 62, math.MaxInt, -1, -2, -64, -127, -128, math.MinInt, math.MinInt + 1}

// plain returns a valid rule: everybody may read everything.
func plain() Rule {
	return Rule{Allow: true, Rights: acl.Read}
}

// changed returns a valid rule with what change does to it.
func changed(change func(x *Rule)) Rule {
	x := plain()
	change(&x)
	return x
}

// wantRight holds Right, and Text of a list of x alone, against the model. It tells whether x is valid.
func wantRight(t *testing.T, x Rule) bool {
	t.Helper()
	want := modelRight(x)
	if got := acl.Right(x); got != want {
		t.Errorf("Right of %.300q: %v", fmt.Sprint(x), got)
	}
	if got := acl.Text([]Rule{x}); got != modelText([]Rule{x}) {
		t.Errorf("Text of %.300q: %.300q instead of %.300q", fmt.Sprint(x), got, modelText([]Rule{x}))
	}
	return want
}

// wantParse holds Parse of s against the model. It returns what the model does.
func wantParse(t *testing.T, s string) ([]Rule, int, api.Errno) {
	t.Helper()
	want, wantNumber, wantError := modelParse(s)
	l, n, e := acl.Parse(s)
	if !slices.Equal(l, want) || n != wantNumber || e != wantError {
		t.Errorf("Parse of %.300q: %d rules %.300q %d %d instead of %d rules %.300q %d %d", s, len(l), fmt.Sprint(l), n, e, len(want), fmt.Sprint(want), wantNumber, wantError)
	}
	return want, wantNumber, wantError
}

// wantRules holds that s is the text of just these rules.
func wantRules(t *testing.T, s string, rules ...Rule) {
	t.Helper()
	wantParse(t, s)
	if l, n, e := acl.Parse(s); !slices.Equal(l, rules) || n != 0 || e != api.OK {
		t.Errorf("Parse of %.300q: %.300q %d %d instead of %.300q", s, fmt.Sprint(l), n, e, fmt.Sprint(rules))
	}
}

// wantWrong holds that the line with this number is the first one of s that is wrong.
func wantWrong(t *testing.T, s string, number int) {
	t.Helper()
	wantParse(t, s)
	if l, n, e := acl.Parse(s); len(l) != 0 || n != number || e != api.ErrForm {
		t.Errorf("Parse of %.300q: %.300q %d %d", s, fmt.Sprint(l), n, e)
	}
}

// wantBig holds that s is too much.
func wantBig(t *testing.T, s string) {
	t.Helper()
	wantParse(t, s)
	if l, n, e := acl.Parse(s); len(l) != 0 || n != 0 || e != api.ErrBig {
		t.Errorf("Parse of %.300q: %.300q %d %d", s, fmt.Sprint(l), n, e)
	}
}

// wantDecide holds Decide against what is wanted and against the model.
func wantDecide(t *testing.T, l []Rule, a Asker, key, attr string, right int, want bool) {
	t.Helper()
	if got := acl.Decide(l, a, key, attr, right); got != want {
		t.Errorf("Decide of %+v, %q, %q, %q, %d: %v", l, a, key, attr, right, got)
	}
	if model := modelDecide(l, a, key, attr, right); model != want {
		t.Errorf("the model of %+v, %q, %q, %q, %d: %v", l, a, key, attr, right, model)
	}
}

func TestConstants(t *testing.T) {
	kinds := []int{acl.Anyone, acl.Anonymous, acl.Known, acl.Self, acl.One, acl.Below, acl.Group}
	rights := []int{acl.Read, acl.Search, acl.Compare, acl.Write, acl.Add, acl.Delete, acl.Rename}
	if !slices.Equal(kinds, []int{0, 1, 2, 3, 4, 5, 6}) || !slices.Equal(rights, []int{1, 2, 4, 8, 16, 32, 64}) {
		t.Error(kinds, rights)
	}
}

// P17.1 and P17.2: the lines as the chapter describes them.
func TestLines(t *testing.T) {
	for s, x := range map[string]Rule{
		"allow|known|o=x|*|rs":                    {true, acl.Known, "", "o=x", "", acl.Read | acl.Search},
		"deny|anyone||*|r":                        {false, acl.Anyone, "", "", "", acl.Read},
		"deny|anonymous||userPassword|rsc":        {false, acl.Anonymous, "", "", "userPassword", acl.Read | acl.Search | acl.Compare},
		"allow|self|ou=a,o=x|telephoneNumber|w":   {true, acl.Self, "", "ou=a,o=x", "telephoneNumber", acl.Write},
		"allow|one=cn=a,o=x|o=x|*|adn":            {true, acl.One, "cn=a,o=x", "o=x", "", acl.Add | acl.Delete | acl.Rename},
		"deny|below=o=x||cn|c":                    {false, acl.Below, "o=x", "", "cn", acl.Compare},
		"allow|group=cn=g+ou=h,o=x|o=y|*|rscwadn": {true, acl.Group, "cn=g+ou=h,o=x", "o=y", "", 127},
		// The byte 10 stays in a password only, and there as digits.
		`allow|one=cn=a\,b,userpassword=\ x|userpassword=\0a|objectClass|n`: {true, acl.One, `cn=a\,b,userpassword=\ x`, `userpassword=\0a`, "objectClass", acl.Rename},
	} {
		if got := acl.Text([]Rule{x}); got != s+"\n" || !acl.Right(x) {
			t.Errorf("Text of %+v: %q instead of %q", x, got, s)
		}
		wantRight(t, x)
		wantRules(t, s, x)
		wantRules(t, s+"\n", x)
		wantRules(t, "\n\n"+s+"\n\n"+s, x, x)
	}
}

// P17.1: all kinds, rights and attributes, allowed and denied.
func TestEachRule(t *testing.T) {
	attributes := []string{""}
	for _, a := range schema.Attributes() {
		attributes = append(attributes, a.Name)
	}
	var all []Rule
	for who := range 7 {
		subject := ""
		if who >= acl.One {
			subject = "cn=s,o=x"
		}
		for rights := 1; rights <= 127; rights++ {
			x := Rule{Allow: rights%2 == 0, Who: who, Subject: subject, Base: "o=x", Attr: attributes[(rights*7+who)%len(attributes)], Rights: rights}
			all = append(all, x)
		}
		for i, name := range attributes {
			all = append(all, Rule{Allow: i%2 == 0, Who: who, Subject: subject, Attr: name, Rights: 1 << (i % 7)})
		}
	}
	for _, x := range all {
		if !wantRight(t, x) {
			t.Errorf("%+v is not valid", x)
		}
		wantRules(t, modelLine(x), x)
	}
	if got := acl.Text(all); got != modelText(all) {
		t.Errorf("%.300q", got)
	}
	for _, l := range [][]Rule{nil, {}, {{}}, make([]Rule, 100)} {
		if s := acl.Text(l); s != "" {
			t.Errorf("%q", s)
		}
	}
}

// keys are those of valid names without a bar.
func keys() []string {
	return []string{
		"o=x", "cn=a,o=x", "cn=a+sn=b,o=x", `cn=a\,o\=x`, `cn=\#a`, `userpassword=\ a\ `, "cn=a b", `userpassword=`, `userpassword=\0a`, `userpassword=\0a\0d\00`, `userpassword=\ff`, `userpassword=\ `, "cn=\u00e4", "cn=*", "cn=a*b", "cn=rscwadn",
		"telephonenumber=12", "employeenumber=-7", "enabled=TRUE", "weight=3ff0000000000000", "objectclass=person",
		"cn=" + strings.Repeat("a", api.MaxText), strings.Repeat("dc=a,", 11) + "dc=a", longest(),
	}
}

// longest returns a key of 1024 bytes.
func longest() string {
	return "cn=" + strings.Repeat("a", 508) + ",o=" + strings.Repeat("b", 510-4) + ",o=c"
}

// notKeys are no names, or names with another key, or with a bar.
func notKeys() []string {
	return []string{
		" ", "   ", "x", "x=a", ",", "cn", "cn=", "cn=a,", ",cn=a", "cn=a,,o=x", "cn=a+CN=b", "1.2.3=a", "member=o=x", "owner=", "enabled=true", "employeenumber=x", "weight=1", "telephonenumber=x", "cn=a;o=", `cn=\ff`, "cn=\xff", "cn=a\\", "cn=a\"", "cn=#", "cn=#6", "cn=<a>", "\x00", "\xff", "*",
		"CN=a", "cn=A", "cn = a", " cn=a", "cn=a ", "cn=a , o=x", "cn=a;o=x", "commonname=a", "commonName=a", "2.5.4.3=a", "cn=#61", `cn=\61`, "cn=a  b", "cn=a\tb", "cn=a\nb", "cn=\n", "sn=b+cn=a", `cn=\41`, "telephonenumber=1 2", "employeenumber=007", "objectclass=2.5.6.6", "weight=3FF0000000000000", "weight=8000000000000000", "userpassword=#0a", "userpassword=\n", "userpassword=a\nb", "cn=\u00c4", "cn=a\u00ad", "cn=\x01a",
		"cn=a|b", "o=|", "o=|x", `cn=\7c`, `cn=a\7Cb`, "cn=#7c", "|", "||", "cn=a,o=x|o=y", "userpassword=|", `userpassword=\7c`,
		"cn=" + strings.Repeat("a", api.MaxText+1), strings.Repeat("dc=a,", 12) + "dc=a", "a" + longest(), longest() + "d", strings.Repeat("x", 100000), "cn=a+dc=a+o=a+ou=a+uid=a",
	}
}

// Right: names.
func TestNames(t *testing.T) {
	if len(longest()) != 1024 {
		t.Fatal(len(longest()))
	}
	for _, k := range keys() {
		for _, x := range []Rule{changed(func(x *Rule) { x.Base = k }), changed(func(x *Rule) { x.Who, x.Subject = acl.One, k }), changed(func(x *Rule) { x.Who, x.Subject = acl.Below, k }), changed(func(x *Rule) { x.Who, x.Subject, x.Base = acl.Group, k, k })} {
			if !wantRight(t, x) {
				t.Errorf("%.300q is not valid", fmt.Sprint(x))
			}
			wantRules(t, modelLine(x), x)
		}
		for _, who := range []int{acl.Anyone, acl.Anonymous, acl.Known, acl.Self, -1, 7} {
			if wantRight(t, changed(func(x *Rule) { x.Who, x.Subject = who, k })) {
				t.Errorf("%d has the Subject %.300q", who, k)
			}
		}
	}
	for _, k := range notKeys() {
		for who := range 7 {
			x := changed(func(x *Rule) { x.Who, x.Subject = who, k })
			y := changed(func(x *Rule) { x.Who, x.Subject, x.Base = who, "o=x", k })
			z := changed(func(x *Rule) { x.Who, x.Base = who, k })
			if wantRight(t, x) || wantRight(t, y) || wantRight(t, z) {
				t.Errorf("%d, %.300q", who, k)
			}
		}
	}
}

// Right: kinds, rights and attributes.
func TestInvalidRules(t *testing.T) {
	for _, n := range []int{-1, 7, 8, 255, 256, 1 << 32, math.MaxInt, math.MinInt} {
		for _, subject := range []string{"", "o=x", " "} {
			if wantRight(t, changed(func(x *Rule) { x.Who, x.Subject = n, subject })) {
				t.Errorf("the kind %d", n)
			}
		}
	}
	for who := range 7 {
		for _, subject := range []string{"", "o=x", " ", "O=x"} {
			want := who >= acl.One && subject == "o=x" || who < acl.One && subject == ""
			if wantRight(t, changed(func(x *Rule) { x.Who, x.Subject = who, subject })) != want {
				t.Errorf("the kind %d with %q", who, subject)
			}
		}
	}
	for _, n := range none {
		if wantRight(t, changed(func(x *Rule) { x.Rights = n })) != (n >= 1 && n <= 127) {
			t.Errorf("the rights %d", n)
		}
	}
	for _, a := range schema.Attributes() {
		others := []string{a.Oid, strings.ToUpper(a.Name), a.Name + " ", " " + a.Name, a.Name + ";a", a.Name + "x"}
		if a.Alias != "" {
			others = append(others, a.Alias)
		}
		if lower := strings.ToLower(a.Name); lower != a.Name {
			others = append(others, lower)
		}
		for _, s := range others {
			if wantRight(t, changed(func(x *Rule) { x.Attr = s })) {
				t.Errorf("the attribute %q", s)
			}
		}
	}
	for _, s := range []string{"*", "x", " ", "1.1", "1.2.3", "person", "|", "\n", "cn|", "\xff", strings.Repeat("c", 100000)} {
		if wantRight(t, changed(func(x *Rule) { x.Attr = s })) {
			t.Errorf("the attribute %.300q", s)
		}
	}
}

// P17.1: rules that are not valid are skipped, and only these.
func TestTextSkips(t *testing.T) {
	good := changed(func(x *Rule) { x.Base = "o=x" })
	for _, bad := range []Rule{{}, {Allow: true}, {Who: 7, Rights: 1}, {Who: acl.One, Rights: 1}, {Rights: 128}, {Rights: 1, Base: "O=X"}, {Rights: 1, Attr: "CN"}, {Rights: 1, Base: "o=a|b"}, {Rights: 1, Subject: "o=x"}} {
		l := []Rule{bad, good, bad, bad, plain(), bad}
		if got := acl.Text(l); got != "allow|anyone|o=x|*|r\nallow|anyone||*|r\n" || got != modelText(l) {
			t.Errorf("%+v: %q", bad, got)
		}
	}
}

// P17.2: names in any writing.
func TestParseNames(t *testing.T) {
	for s, k := range map[string]string{
		"CN=G, O=x": "cn=g,o=x", "cn = g ;o= X ": "cn=g,o=x", "commonName=G,organizationname=X": "cn=g,o=x", "2.5.4.3=g,2.5.4.10=x": "cn=g,o=x", "sn=b+CN=a": "cn=a+sn=b", "cn=#61": "cn=a", `cn=\61\,`: `cn=a\,`, "cn=a  \t b": "cn=a b", `cn=a\0ab`: "cn=a b", `cn=a\0a`: "cn=a", `userPassword=\0A`: `userpassword=\0a`, "telephoneNumber=1 2": "telephonenumber=12", "employeeNumber=-007": "employeenumber=-7", "objectClass=2.5.6.6": "objectclass=person", `cn=a\=b`: `cn=a\=b`, "cn=\u00c4": "cn=\u00e4", "cn=a\rb": "cn=a b", "cn=r": "cn=r",
	} {
		if got, e := dn.Of(s); got != k || e != api.OK {
			t.Fatalf("%q: %q %d", s, got, e)
		}
		wantRules(t, "allow|anyone|"+s+"|*|r", Rule{true, acl.Anyone, "", k, "", 1})
		wantRules(t, "deny|one="+s+"||*|r", Rule{false, acl.One, k, "", "", 1})
		wantRules(t, "deny|below="+s+"|"+s+"|*|r", Rule{false, acl.Below, k, k, "", 1})
		wantRules(t, "deny|group="+s+"|o=x|*|r", Rule{false, acl.Group, k, "o=x", "", 1})
	}
	// Blanks alone are the empty name.
	for _, s := range []string{"", " ", "     "} {
		wantRules(t, "allow|anyone|"+s+"|*|r", plain())
		for _, who := range []string{"one=", "below=", "group="} {
			wantWrong(t, "allow|"+who+s+"|o=x|*|r", 1)
		}
	}
	long := strings.Repeat(" ", 1024-3)
	wantRules(t, "allow|one="+long+"o=x|"+long+"o=x|*|r", Rule{true, acl.One, "o=x", "o=x", "", 1})
	wantWrong(t, "allow|one=o=x| "+long+"o=x|*|r", 1)
	wantWrong(t, "allow|one= "+long+"o=x|o=x|*|r", 1)
	wantWrong(t, "allow|anyone|"+strings.Repeat(" ", 1025)+"|*|r", 1)
	for _, s := range notKeys() {
		if k, e := dn.Of(s); e == api.OK && !strings.Contains(k, "|") || strings.Contains(s, "\n") {
			continue
		}
		s = s[:min(len(s), 2000)]
		wantWrong(t, "allow|anyone|"+s+"|*|r", 1)
		for _, who := range []string{"one=", "below=", "group="} {
			wantWrong(t, "\nallow|"+who+s+"|o=x|*|r", 2)
		}
	}
}

// P17.2: an attribute by each of its names.
func TestParseAttributes(t *testing.T) {
	for _, a := range schema.Attributes() {
		for _, s := range []string{a.Name, strings.ToLower(a.Name), strings.ToUpper(a.Name), a.Oid, a.Alias, strings.ToUpper(a.Alias)} {
			if s != "" {
				wantRules(t, "allow|anyone||"+s+"|r", changed(func(x *Rule) { x.Attr = a.Name }))
			}
		}
		for _, s := range []string{" " + a.Name, a.Name + " ", a.Name + ";a", a.Name + "*", "*" + a.Name, a.Name + "x", a.Oid + ".1"} {
			wantWrong(t, "allow|anyone||"+s+"|r", 1)
		}
	}
	wantRules(t, "allow|anyone||*|r", plain())
	for _, s := range []string{"", "x", " ", "**", " *", "* ", "1.1", "person", "\xff", "cn,sn"} {
		wantWrong(t, "allow|anyone||"+s+"|r", 1)
	}
}

// each passes all lists of different letters of the rights to a function, in each order.
func each(letters, rest string, f func(letters string)) {
	f(letters)
	for i := range rest {
		each(letters+rest[i:i+1], rest[:i]+rest[i+1:], f)
	}
}

// P17.2: letters in any order, each at most once.
func TestParseLetters(t *testing.T) {
	n := 0
	each("", "rscwadn", func(letters string) {
		n++
		if letters == "" {
			wantWrong(t, "allow|anyone||*|", 1)
			return
		}
		rights := 0
		for _, r := range rightLetters {
			if strings.Contains(letters, r.letter) {
				rights += r.right
			}
		}
		wantRules(t, "allow|anyone||*|"+letters, changed(func(x *Rule) { x.Rights = rights }))
	})
	if n != 13700 {
		t.Error(n)
	}
	for c := range 256 {
		letter := string([]byte{byte(c)})
		if c == '\n' {
			wantWrong(t, "allow|anyone||*|"+letter, 1)
			wantRules(t, "allow|anyone||*|s"+letter, changed(func(x *Rule) { x.Rights = 2 }))
			continue
		}
		if !strings.Contains("rscwadn", letter) {
			wantWrong(t, "allow|anyone||*|"+letter, 1)
		}
		for _, s := range []string{"r" + letter + "r", "rscwadn" + letter, letter + letter, letter + "rscwadn", "s" + letter + letter} {
			wantWrong(t, "allow|anyone||*|"+s, 1)
		}
	}
}

// P17.2: lines of other forms.
func TestParseWrongLines(t *testing.T) {
	for _, s := range []string{
		"|", "||||", "|||||", " ", "\r", "\t", "\x00", "#", "# allow|anyone||*|r", "allow", "allow|anyone", "allow|anyone|", "allow|anyone||*", "allow|anyone|*|r", "allow|anyone||*|r|", "|allow|anyone||*|r", "allow|anyone||*|r|r", "allow||anyone||*|r", "allow|anyone||*|r\r", "allow|anyone||*|r ", " allow|anyone||*|r", "allow |anyone||*|r",
		"permit|anyone||*|r", "Allow|anyone||*|r", "ALLOW|anyone||*|r", "|anyone||*|r", "allo|anyone||*|r", "allowed|anyone||*|r", "den|anyone||*|r", "Deny|anyone||*|r", "allowdeny|anyone||*|r", "1|anyone||*|r",
		"allow|||*|r", "allow|any||*|r", "allow|Anyone||*|r", "allow|anyone ||*|r", "allow| anyone||*|r", "allow|anyone=||*|r", "allow|anyoneo=x||*|r", "allow|anyone=o=x||*|r", "allow|known ||*|r", "allow|knowno=x||*|r", "allow|known=o=x||*|r", "allow|selfo=x||*|r", "allow|self=o=x||*|r", "allow|self ||*|r", "allow|anonymouso=x||*|r", "allow|anonymous=||*|r", "allow|anonymous ||*|r",
		"allow|one||*|r", "allow|one=||*|r", "allow|one= ||*|r", "allow|one=x||*|r", "allow|one o=x||*|r", "allow|oneo=x||*|r", "allow|One=o=x||*|r", "allow|one =o=x||*|r", "allow| one=o=x||*|r", "allow|=o=x||*|r", "allow|o=x||*|r", "allow|below||*|r", "allow|below=||*|r", "allow|belowo=x||*|r", "allow|group||*|r", "allow|group=||*|r", "allow|groups=o=x||*|r", "allow|4=o=x||*|r", "allow|4||*|r", "allow|self=||*|r",
		"allow|anyone|*|*|r", "allow|anyone|x|*|r", "allow|anyone||x|r", "allow|anyone|||r", "allow|anyone||*|", "allow|anyone||*|1", "allow|anyone||*|rr", "allow|anyone||*|R", "allow|anyone||*|*", "allow|anyone||*|r,s", "allow|anyone||*|r s", "allow|anyone||*|rscwadnr", "allow|anyone|o=a|b|*|r", `allow|anyone|o=a\|b|*|r`, `allow|anyone|o=a\7cb|*|r`,
	} {
		wantWrong(t, s, 1)
		for before := range 4 {
			wantWrong(t, strings.Repeat("\n", before)+s+"\n", before+1)
			wantWrong(t, strings.Repeat("deny|self||*|w\n", before)+s+"\n", before+1)
			wantWrong(t, strings.Repeat("\ndeny|self||*|w\n", before)+s+"\nx\n|\n", 2*before+1)
		}
	}
	// A line ends only at a byte 10.
	for _, s := range []string{"\r", "\r\n", "\v", "\u0085", "\u2028", ";", "\x00"} {
		wantWrong(t, "allow|anyone||*|r"+s+"allow|anyone||*|r", 1)
	}
	for _, s := range []string{"", "\n", "\n\n\n", strings.Repeat("\n", maxBytes)} {
		wantRules(t, s)
	}
}

// P17.2: the size of the text.
func TestParseSize(t *testing.T) {
	for _, s := range []string{"allow|anyone||*|r", "x", "", strings.Repeat(modelLine(plain())+"\n", 64), strings.Repeat(modelLine(plain())+"\n", 65)} {
		all := s + strings.Repeat("\n", maxBytes-len(s))
		for _, text := range []string{all[1:], all, "\n" + all[1:]} {
			wantParse(t, text)
		}
		wantBig(t, all+"\n")
		wantBig(t, all+all)
		wantBig(t, "\n"+all)
		wantBig(t, strings.Repeat("x", maxBytes+1-len(s))+s)
	}
	wantRules(t, strings.Repeat("\n", maxBytes-17)+"allow|anyone||*|r", plain())
	wantWrong(t, strings.Repeat("\n", maxBytes-1)+"x", maxBytes)
	wantWrong(t, strings.Repeat("x", maxBytes), 1)
	wantWrong(t, strings.Repeat("|", maxBytes), 1)
}

// P17.2: the number of rules. A line that is wrong counts before too many rules do.
func TestParseCount(t *testing.T) {
	line := "allow|anyone||*|r\n"
	for _, n := range []int{1, 2, 63, 64} {
		wantRules(t, strings.Repeat(line, n), slices.Repeat([]Rule{plain()}, n)...)
		wantRules(t, strings.Repeat("\n"+line, n)+"\n\n", slices.Repeat([]Rule{plain()}, n)...)
		wantWrong(t, strings.Repeat(line, n)+"x", n+1)
	}
	for _, n := range []int{65, 66, 100, 128, 1000, maxBytes / len(line)} {
		wantBig(t, strings.Repeat(line, n))
		wantBig(t, strings.Repeat("\n"+line, min(n, 3000)))
		if n < 1000 {
			wantWrong(t, strings.Repeat(line, n)+"x", n+1)
			wantWrong(t, strings.Repeat(line, n)+"x\n"+line+"y", n+1)
			wantWrong(t, "x\n"+strings.Repeat(line, n), 1)
		}
	}
	// The rules are those of the lines, in their order, and each as often as it is there.
	s := "allow|known|o=x|*|rs\ndeny|anyone||*|r\nallow|known|o=x|*|rs\n"
	known := Rule{true, acl.Known, "", "o=x", "", 3}
	wantRules(t, s, known, changed(func(x *Rule) { x.Allow = false }), known)
}

// The askers of the tests.
var (
	nobody = Asker{}
	me     = Asker{Key: "cn=me,ou=a,o=x", Groups: []string{"cn=g,o=x", "cn=h,o=x"}}
	other  = Asker{Key: "cn=you,o=x"}
)

// P17.3: each kind of subjects.
func TestWho(t *testing.T) {
	const mine, yours = "cn=me,ou=a,o=x", "cn=you,o=x"
	for _, x := range []struct {
		who     int
		subject string
		asker   Asker
		key     string
		want    bool
	}{
		{acl.Anyone, "", nobody, mine, true}, {acl.Anyone, "", me, mine, true}, {acl.Anyone, "", me, yours, true}, {acl.Anyone, "", nobody, "", true},
		{acl.Anonymous, "", nobody, mine, true}, {acl.Anonymous, "", nobody, "", true}, {acl.Anonymous, "", me, mine, false}, {acl.Anonymous, "", me, yours, false}, {acl.Anonymous, "", Asker{Groups: me.Groups}, mine, true},
		{acl.Known, "", nobody, mine, false}, {acl.Known, "", nobody, "", false}, {acl.Known, "", me, mine, true}, {acl.Known, "", me, yours, true}, {acl.Known, "", me, "", true}, {acl.Known, "", Asker{Groups: me.Groups}, mine, false},
		{acl.Self, "", me, mine, true}, {acl.Self, "", me, yours, false}, {acl.Self, "", other, mine, false}, {acl.Self, "", nobody, mine, false}, {acl.Self, "", nobody, "", false}, {acl.Self, "", me, "", false}, {acl.Self, "", me, "cn=k," + mine, false}, {acl.Self, "", me, "ou=a,o=x", false},
		{acl.One, mine, me, mine, true}, {acl.One, mine, me, yours, true}, {acl.One, mine, me, "", true}, {acl.One, yours, me, mine, false}, {acl.One, "ou=a,o=x", me, mine, false}, {acl.One, "cn=k," + mine, me, mine, false}, {acl.One, mine, nobody, mine, false}, {acl.One, "cn=g,o=x", me, mine, false}, {acl.One, "o=x", Asker{Key: "O=X"}, mine, false},
		{acl.Below, mine, me, yours, true}, {acl.Below, "ou=a,o=x", me, yours, true}, {acl.Below, "o=x", me, yours, true}, {acl.Below, "o=x", other, yours, true}, {acl.Below, "ou=a,o=x", other, yours, false}, {acl.Below, "o=y", me, mine, false}, {acl.Below, "cn=k," + mine, me, mine, false}, {acl.Below, "cn=g,o=x", me, mine, false}, {acl.Below, "o=x", nobody, mine, false}, {acl.Below, "o=x", nobody, "", false}, {acl.Below, "o=x", Asker{Key: "o=x"}, "", true}, {acl.Below, "o=x", Asker{Key: `cn=a\,o\=x`}, "", false}, {acl.Below, "o=x", Asker{Key: "ou=ao=x"}, "", false}, {acl.Below, "o=x", Asker{Key: "cn=a+o=x"}, "", false},
		{acl.Group, "cn=g,o=x", me, yours, true}, {acl.Group, "cn=h,o=x", me, "", true}, {acl.Group, "cn=i,o=x", me, mine, false}, {acl.Group, "o=x", me, mine, false}, {acl.Group, mine, me, mine, false}, {acl.Group, "cn=g,o=x", other, mine, false}, {acl.Group, "cn=g,o=x", nobody, mine, false}, {acl.Group, "cn=g,o=x", Asker{Key: "cn=g,o=x"}, "cn=g,o=x", false}, {acl.Group, "cn=g,o=x", Asker{Groups: me.Groups}, mine, true}, {acl.Group, "cn=g,o=x", Asker{Key: "o=x", Groups: []string{"CN=G,o=x", "", "cn=g", "o=x"}}, mine, false}, {acl.Group, "cn=g,o=x", Asker{Key: "o=x", Groups: []string{"", "\xff", "cn=g,o=x", "cn=g,o=x"}}, mine, true},
	} {
		for _, base := range []string{"", x.key} {
			for _, allow := range []bool{false, true} {
				rule := Rule{allow, x.who, x.subject, base, "", acl.Read}
				after := Rule{Allow: !allow, Rights: acl.Read}
				wantDecide(t, []Rule{rule}, x.asker, x.key, "", acl.Read, x.want && allow)
				wantDecide(t, []Rule{rule, after}, x.asker, x.key, "cn", acl.Read, x.want == allow)
			}
		}
	}
}

// P17.3: bases.
func TestBase(t *testing.T) {
	for _, x := range []struct {
		base, key string
		want      bool
	}{
		{"", "", true}, {"", "o=x", true}, {"", "cn=a,o=x", true}, {"o=x", "o=x", true}, {"o=x", "cn=a,o=x", true}, {"o=x", "cn=a,ou=b,o=x", true}, {"ou=b,o=x", "cn=a,ou=b,o=x", true}, {"cn=a+sn=b,o=x", "uid=c,cn=a+sn=b,o=x", true}, {`cn=a\,b`, `o=x,cn=a\,b`, true},
		{"o=x", "", false}, {"o=x", "o=y", false}, {"o=x", "cn=a,o=y", false}, {"cn=a,o=x", "o=x", false}, {"cn=a,o=x", "cn=b,o=x", false}, {"o=x", "o=x,o=y", false}, {"o=x", "o=xx", false}, {"o=x", "oo=x", false}, {"o=x", "cn=ao=x", false}, {"o=x", `cn=a\,o=x`, false}, {"o=x", `cn=a\\,o=x`, true}, {"o=x", "cn=a+o=x", false}, {"o=x", "cn=a,O=x", false}, {"o=x", "o=X", false}, {"cn=a", "cn=a+sn=b", false}, {"sn=b", "cn=a+sn=b", false},
	} {
		for who, a := range map[int]Asker{acl.Anyone: nobody, acl.Known: me, acl.Group: me} {
			subject := ""
			if who == acl.Group {
				subject = me.Groups[0]
			}
			rule := Rule{true, who, subject, x.base, "", acl.Search}
			wantDecide(t, []Rule{rule}, a, x.key, "", acl.Search, x.want)
			wantDecide(t, []Rule{rule}, a, x.key, "sn", acl.Search, x.want)
			rule.Allow = false
			wantDecide(t, []Rule{rule, {Allow: true, Rights: acl.Search}}, a, x.key, "", acl.Search, !x.want)
		}
	}
}

// P17.3: attributes.
func TestAttribute(t *testing.T) {
	asked := []string{"", "CN", "commonName", "2.5.4.3", "*", "x", "1.1", "cn;a", " cn", "c", "cnn", "\xff", "userpassword"}
	for _, a := range schema.Attributes() {
		asked = append(asked, a.Name)
	}
	for _, a := range schema.Attributes() {
		for _, attr := range asked {
			rule := changed(func(x *Rule) { x.Attr = a.Name })
			wantDecide(t, []Rule{rule}, me, "o=x", attr, acl.Read, attr == a.Name)
			rule.Allow = false
			wantDecide(t, []Rule{rule, plain()}, me, "o=x", attr, acl.Read, attr != a.Name)
			wantDecide(t, []Rule{plain(), rule}, me, "o=x", attr, acl.Read, true)
		}
	}
}

// P17.3: rights.
func TestRights(t *testing.T) {
	for rights := 1; rights <= 127; rights++ {
		rule := changed(func(x *Rule) { x.Rights = rights })
		for _, r := range rightLetters {
			wantDecide(t, []Rule{rule}, nobody, "o=x", "", r.right, rights/r.right%2 == 1)
			denied := rule
			denied.Allow = false
			wantDecide(t, []Rule{denied, {Allow: true, Rights: 127}}, nobody, "o=x", "", r.right, rights/r.right%2 == 0)
		}
		// What is not exactly one right is not decided by any rule.
		for right := range 130 {
			if right == 0 || right&(right-1) != 0 || right > 64 {
				wantDecide(t, []Rule{rule, {Allow: true, Rights: 127}}, nobody, "o=x", "", right, false)
			}
		}
		for _, right := range none {
			wantDecide(t, []Rule{rule}, nobody, "o=x", "", right, false)
		}
	}
}

// P17.3: rules that are not valid do not apply, whoever asks.
func TestDecideSkips(t *testing.T) {
	bad := []Rule{{}, {Allow: true, Rights: 0}, {Who: -1, Rights: 127}, {Who: 7, Rights: 127}, {Who: math.MaxInt, Rights: 127}, {Who: math.MinInt, Rights: 127}}
	for _, n := range none {
		if n < 1 || n > 127 {
			bad = append(bad, Rule{Rights: n})
		}
	}
	for _, s := range []string{"CN", "commonName", "2.5.4.3", "*", "x", "cn;a"} {
		bad = append(bad, Rule{Rights: 127, Attr: s})
	}
	for who := range 7 {
		bad = append(bad, Rule{Who: who, Subject: "O=x", Rights: 127}, Rule{Who: who, Subject: " ", Rights: 127}, Rule{Who: who, Subject: "x", Rights: 127}, Rule{Who: who, Subject: "o=a|b", Rights: 127})
		if who < acl.One {
			bad = append(bad, Rule{Who: who, Subject: "o=x", Rights: 127}, Rule{Who: who, Base: "O=x", Rights: 127}, Rule{Who: who, Base: "o=a|b", Rights: 127}, Rule{Who: who, Base: " ", Rights: 127})
		} else {
			bad = append(bad, Rule{Who: who, Rights: 127}, Rule{Who: who, Subject: "o=x", Base: "x", Rights: 127})
		}
	}
	askers := []Asker{nobody, me, other, {Key: "O=x"}, {Key: " "}, {Key: "x"}, {Key: "o=a|b"}, {Key: "cn=b,o=a|b"}, {Key: "o=x", Groups: []string{"", "O=x", " ", "x", "o=a|b"}}, {Groups: []string{""}}}
	for _, x := range bad {
		for _, allow := range []bool{false, true} {
			x.Allow = allow
			after := Rule{Allow: !allow, Rights: 127}
			for _, a := range askers {
				for _, key := range []string{"", "o=x", "O=x", "x", " ", "o=a|b", "cn=b,o=a|b", a.Key} {
					for _, attr := range []string{"", "cn", x.Attr} {
						wantDecide(t, []Rule{x}, a, key, attr, acl.Read, false)
						wantDecide(t, []Rule{x, x, after}, a, key, attr, acl.Read, !allow)
					}
				}
			}
		}
	}
}

// P17.3 and P17.5: the first rule that applies decides; those after it do not count.
func TestFirst(t *testing.T) {
	const key = "cn=a,ou=b,o=x"
	l := []Rule{
		{false, acl.Anyone, "", "", "userPassword", acl.Read},
		{true, acl.Group, "cn=g,o=x", "ou=b,o=x", "", acl.Read},
		{false, acl.Below, "ou=a,o=x", "o=x", "", acl.Read},
		{true, acl.Known, "", "o=x", "", acl.Read},
		{true, acl.Anonymous, "", "", "cn", acl.Read},
		{false, acl.Anyone, "", "", "", 127},
		{true, acl.Anyone, "", "", "", 127},
	}
	for _, x := range []struct {
		asker     Asker
		key, attr string
		right     int
		want      bool
	}{
		{me, key, "userPassword", acl.Read, false}, {me, key, "cn", acl.Read, true}, {me, "o=x", "cn", acl.Read, false}, {other, "o=x", "cn", acl.Read, true}, {other, key, "", acl.Read, true}, {other, "o=y", "", acl.Read, false}, {nobody, key, "cn", acl.Read, true}, {nobody, key, "", acl.Read, false}, {nobody, "", "cn", acl.Read, true}, {me, key, "cn", acl.Write, false}, {me, "o=y", "sn", acl.Rename, false},
	} {
		wantDecide(t, l, x.asker, x.key, x.attr, x.right, x.want)
		wantDecide(t, append(slices.Clone(l), l...), x.asker, x.key, x.attr, x.right, x.want)
		wantDecide(t, l[5:], x.asker, x.key, x.attr, x.right, false)
		wantDecide(t, l[6:], x.asker, x.key, x.attr, x.right, true)
	}
	for _, l := range [][]Rule{nil, {}} {
		for _, r := range rightLetters {
			wantDecide(t, l, me, key, "cn", r.right, false)
			wantDecide(t, l, nobody, "", "", r.right, false)
		}
	}
}

// wantGroups holds Groups against what is wanted and against the model.
func wantGroups(t *testing.T, l []Rule, want ...string) {
	t.Helper()
	if got := acl.Groups(l); !slices.Equal(got, want) {
		t.Errorf("Groups of %+v: %q instead of %q", l, got, want)
	}
	if model := modelGroups(l); !slices.Equal(model, want) {
		t.Errorf("the model of %+v: %q instead of %q", l, model, want)
	}
}

// P17.4: Groups.
func TestGroups(t *testing.T) {
	group := func(s string) Rule { return Rule{Who: acl.Group, Subject: s, Rights: acl.Read} }
	wantGroups(t, nil)
	wantGroups(t, []Rule{})
	wantGroups(t, []Rule{plain(), {}, {Allow: true, Who: acl.One, Subject: "o=x", Rights: 1}, {Who: acl.Below, Subject: "o=y", Rights: 1}, {Who: acl.Self, Rights: 1}})
	wantGroups(t, []Rule{group("o=x")}, "o=x")
	wantGroups(t, []Rule{group("o=x"), group("o=x"), group("o=x")}, "o=x")
	wantGroups(t, []Rule{group("o=x"), plain(), group("cn=b"), group("o=x"), group("cn=a"), group("cn=b")}, "cn=a", "cn=b", "o=x")
	wantGroups(t, []Rule{group("cn=\u00e4"), group("cn=z"), group("cn=a,o=x"), group("cn=a"), group("cn=a b"), group("cn=a+sn=b")}, "cn=a", "cn=a b", "cn=a+sn=b", "cn=a,o=x", "cn=z", "cn=\u00e4")
	wantGroups(t, []Rule{group(""), group("x"), group("O=x"), group("o=a|b"), group("o=z"), {Who: acl.Group, Subject: "o=x"}, {Who: acl.Group, Subject: "o=x", Rights: 128}, {Who: acl.Group, Subject: "o=x", Rights: 1, Base: "x"}, {Who: acl.Group, Subject: "o=x", Rights: 1, Attr: "CN"}, {Who: 7, Subject: "o=x", Rights: 1}}, "o=z")
	for _, k := range keys() {
		wantGroups(t, []Rule{group(k)}, k)
	}
	for _, k := range notKeys() {
		wantGroups(t, []Rule{group(k)})
	}
	// What a rule permits, where and for which attribute does not count.
	wantGroups(t, []Rule{{true, acl.Group, "o=b", "cn=a,o=x", "cn", 127}, {false, acl.Group, "o=a", "", "sn", 64}}, "o=a", "o=b")
	// Many rules with one Subject.
	wantGroups(t, slices.Repeat([]Rule{group("o=y"), group("o=x")}, 5000), "o=x", "o=y")
}

// share tells whether two strings have memory in common.
func share(a, b string) bool {
	from, to := uintptr(unsafe.Pointer(unsafe.StringData(a))), uintptr(unsafe.Pointer(unsafe.StringData(b)))
	return a != "" && b != "" && from < to+uintptr(len(b)) && to < from+uintptr(len(a))
}

// Rule 4: results are new memory.
func TestResultsAreNew(t *testing.T) {
	s := strings.Clone("allow|one=cn=a,o=x|o=x|cn|r\nallow|group=o=y||sn|s\n")
	l, _, e := acl.Parse(s)
	if e != api.OK {
		t.Fatal(e)
	}
	for _, x := range l {
		if share(x.Subject, s) || share(x.Base, s) || share(x.Attr, s) {
			t.Errorf("%+v", x)
		}
	}
	again, _, _ := acl.Parse(s)
	l[0] = Rule{}
	if again[0].Base != "o=x" {
		t.Errorf("%+v", again)
	}
	groups := acl.Groups(again)
	if len(groups) != 1 || share(groups[0], again[1].Subject) {
		t.Errorf("%q", groups)
	}
	all := groups[:cap(groups)]
	for i := range all {
		all[i] = "changed"
	}
	wantGroups(t, again, "o=y")
	if text := acl.Text(again); text != s || share(text, again[0].Subject) {
		t.Errorf("%q", text)
	}
}

// Rule 4: arguments are not modified, nor what is behind them. Rule 5: the same call has the same result.
func TestArgumentsStay(t *testing.T) {
	l := []Rule{{true, acl.Group, "o=z", "", "", 1}, {false, acl.Group, "o=b", "", "", 127}, {Rights: 500}, {true, acl.Group, "o=a", "o=x", "cn", 3}, {Base: "behind"}}
	groups := []string{"o=z", "o=b", "o=a", "behind"}
	rules, names := slices.Clone(l), slices.Clone(groups)
	for range 5 {
		wantGroups(t, l[:4], "o=a", "o=b", "o=z")
		wantDecide(t, l[:4], Asker{Key: "o=x", Groups: groups[:3]}, "cn=a,o=x", "cn", acl.Search, false)
		wantDecide(t, l[:4], Asker{Key: "o=x", Groups: groups[1:1]}, "cn=a,o=x", "cn", acl.Search, false)
		wantDecide(t, l[3:4], Asker{Key: "o=x", Groups: groups[:3]}, "cn=a,o=x", "cn", acl.Search, true)
		if s := acl.Text(l[:4]); s != modelText(l[:4]) {
			t.Errorf("%q", s)
		}
		wantParse(t, modelText(l[:4]))
	}
	if !slices.Equal(l, rules) || !slices.Equal(groups, names) {
		t.Errorf("%+v %q", l, groups)
	}
}

// Rule 1: the functions return for strings that are no keys and for long ones.
func TestOddArguments(t *testing.T) {
	long := strings.Repeat(`cn=a\,,`, 100000)
	odd := []string{"", ",", "\\", "=", "+", "cn=a,", ",o=x", "\xff", "\x00\n|", long, strings.Repeat("\\", 99999), strings.Repeat(",", 100000)}
	for _, s := range odd {
		for _, other := range odd {
			for who := -1; who < 8; who++ {
				x := Rule{Allow: true, Who: who, Subject: s, Base: other, Rights: 127}
				if acl.Right(x) != (s == "" && other == "" && who >= 0 && who < 4) {
					t.Errorf("%d %.100q %.100q", who, s, other)
				}
				for _, y := range []Rule{x, plain()} {
					got := acl.Decide([]Rule{y}, Asker{Key: s, Groups: []string{s}}, other, s, acl.Read)
					if !acl.Right(y) && got || y == plain() && !got {
						t.Errorf("%.300q: %v", fmt.Sprint(y), got)
					}
				}
			}
		}
		wantParse(t, s)
	}
}
