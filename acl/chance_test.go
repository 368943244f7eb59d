package acl_test

import (
	"math/rand"
	"slices"
	"strings"
	"testing"

	"peerage/acl"
	"peerage/api"
	"peerage/dn"
	"peerage/oid"
	"peerage/schema"
)

// pick returns one of l.
func pick[T any](r *rand.Rand, l ...T) T {
	return l[r.Intn(len(l))]
}

// keyByChance returns a key, often one that is above or below another one.
func keyByChance(r *rand.Rand) string {
	k := ""
	for range r.Intn(4) {
		level := "o=x"
		if k != "" || r.Intn(4) == 0 {
			level = pick(r, "o=x", "o=y", "cn=a", "cn=b", "cn=a", "cn=a+sn=b", `cn=a\,o\=x`, `userpassword=\0a`, "cn=\u00e4")
		}
		k = dn.Join(level, k)
	}
	return k
}

// ruleByChance returns a valid rule.
func ruleByChance(r *rand.Rand) Rule {
	x := Rule{Allow: r.Intn(2) == 0, Who: r.Intn(7), Base: keyByChance(r), Rights: pick(r, 127, 1+r.Intn(127))}
	if r.Intn(3) == 0 {
		x.Base = ""
	}
	for x.Who >= acl.One && x.Subject == "" {
		x.Subject = keyByChance(r)
	}
	if r.Intn(2) == 0 {
		x.Attr = pick(r, schema.Attributes()...).Name
	}
	return x
}

// fault returns x with one thing in it changed, after which it may or may not be valid.
func fault(r *rand.Rand, x Rule) Rule {
	name := pick(r, "", " ", "x", "O=x", "o=x ", "o=a|b", "cn=a;o=x", "cn=", "o=\n", keyByChance(r))
	switch r.Intn(5) {
	case 0:
		x.Who = pick(r, -1, 0, 3, 4, 6, 7, 1<<32)
	case 1:
		x.Subject = name
	case 2:
		x.Base = name
	case 3:
		x.Attr = pick(r, "", "CN", "2.5.4.3", "*", "x", "sn")
	case 4:
		x.Rights = pick(r, 0, -1, 1, 127, 128, 1<<32+1)
	}
	return x
}

// rulesByChance returns some rules, most of them valid.
func rulesByChance(r *rand.Rand, most int) []Rule {
	var l []Rule
	for range r.Intn(most + 1) {
		x := ruleByChance(r)
		if r.Intn(5) == 0 {
			x = fault(r, x)
		}
		l = append(l, x)
	}
	return l
}

// askerByChance returns an asker.
func askerByChance(r *rand.Rand) Asker {
	a := Asker{Key: keyByChance(r)}
	for range r.Intn(4) {
		a.Groups = append(a.Groups, keyByChance(r))
	}
	return a
}

// P17.1 and P17.5: the text of rules by chance is parsed.
func TestTextByChance(t *testing.T) {
	r := rand.New(rand.NewSource(1))
	for range 1000 {
		l := rulesByChance(r, 80)
		s := acl.Text(l)
		if s != modelText(l) {
			t.Fatalf("Text of %+v: %q", l, s)
		}
		valid := slices.DeleteFunc(slices.Clone(l), func(x Rule) bool { return !acl.Right(x) })
		if len(valid) > maxRules {
			wantBig(t, s)
		} else {
			wantRules(t, s, valid...)
		}
		for _, x := range l {
			wantRight(t, x)
		}
		wantGroups(t, l, modelGroups(l)...)
		if t.Failed() {
			return
		}
	}
}

// nameByChance returns one of the texts of the name with the key k.
func nameByChance(r *rand.Rand, k string) string {
	n, _ := dn.Parse(k)
	for _, l := range n {
		for i := range l {
			a, _ := schema.Find(l[i].Type)
			l[i].Type = attrByChance(r, a)
			if a.Syntax == schema.Words {
				l[i].Value = pick(r, l[i].Value, strings.ToUpper(l[i].Value), " "+l[i].Value)
			}
		}
		r.Shuffle(len(l), func(i, j int) { l[i], l[j] = l[j], l[i] })
	}
	var levels []string
	for _, l := range n {
		levels = append(levels, pick(r, "", " ")+dn.Text(dn.Name{l})+pick(r, "", "  "))
	}
	return strings.Join(levels, pick(r, ",", ";"))
}

// attrByChance returns one of the names of an attribute.
func attrByChance(r *rand.Rand, a schema.Attribute) string {
	s := pick(r, a.Name, a.Oid, a.Alias)
	if s == "" {
		s = a.Name
	}
	return pick(r, s, oid.Lower(s), strings.ToUpper(s))
}

// lineByChance returns one of the lines of a valid rule.
func lineByChance(r *rand.Rand, x Rule) string {
	parts := strings.Split(modelLine(x), "|")
	if x.Subject != "" {
		parts[1] = whoTexts[x.Who] + nameByChance(r, x.Subject)
	}
	parts[2] = nameByChance(r, x.Base)
	if a, ok := schema.Find(x.Attr); ok {
		parts[3] = attrByChance(r, a)
	}
	letters := []byte(parts[4])
	r.Shuffle(len(letters), func(i, j int) { letters[i], letters[j] = letters[j], letters[i] })
	parts[4] = string(letters)
	return strings.Join(parts, "|")
}

// P17.2: lines by chance, in any writing.
func TestParseByChance(t *testing.T) {
	r := rand.New(rand.NewSource(2))
	for range 4000 {
		var l []Rule
		s := ""
		for range r.Intn(12) {
			x := ruleByChance(r)
			l = append(l, x)
			s += strings.Repeat("\n", r.Intn(2)*r.Intn(3)) + lineByChance(r, x) + "\n"
		}
		wantRules(t, s, l...)
		if t.Failed() {
			return
		}
	}
}

// P17.2: texts with one byte changed, put in or left out.
func TestParseEachByte(t *testing.T) {
	texts := []string{
		"allow|known|o=x|*|rs", "deny|anyone||userPassword|r\n\nallow|self||*|wr\n", "allow|group=CN=G, O=x|ou=a,o=x|*|rscwadn\nallow|anonymous|o=x|cn|rs", `deny|one=cn=a\,b+sn=c||2.5.4.3|n`, "deny|below=o=#61|;|sn|a", "allow|below=o=a;o=b|userpassword=\\0a|surname|d\n\n",
	}
	seen := map[api.Errno]int{}
	for _, s := range texts {
		for i := range len(s) + 1 {
			for c := range 256 {
				one := string([]byte{byte(c)})
				changed := []string{s[:i] + one + s[i:]}
				if i < len(s) {
					changed = append(changed, s[:i]+one+s[i+1:])
				}
				for _, text := range changed {
					_, _, e := wantParse(t, text)
					seen[e]++
				}
			}
			wantParse(t, s[:i])
			wantParse(t, s[i:])
			wantParse(t, s[:i]+s[min(i+1, len(s)):])
			if t.Failed() {
				return
			}
		}
	}
	if seen[api.OK] < 1000 || seen[api.ErrForm] < 1000 {
		t.Error(seen)
	}
}

// P17.2: parts of lines by chance.
func TestParsePartsByChance(t *testing.T) {
	r := rand.New(rand.NewSource(3))
	seen := map[api.Errno]int{}
	for range 60000 {
		var parts []string
		parts = append(parts, pick(r, "allow", "deny", "allow", "deny", "allow", "deny", "", "Allow", "denyx"))
		who := pick(r, "anyone", "anonymous", "known", "self", "one=", "below=", "group=", "one=", "below=", "group=", "one", "x=", "self=")
		if strings.HasSuffix(who, "=") || r.Intn(10) == 0 {
			who += pick(r, "o=x", "CN=a,o=x", "cn=b", "cn=a+sn=b", "o = X;c=y", "", " ", "x")
		}
		parts = append(parts, who, pick(r, "", "o=x", " ", "O = X", "cn=a;o=y", "cn=b,", "*"), pick(r, "*", "*", "cn", "SN", "2.5.4.3", "*", "", "x"))
		letters := ""
		for range 1 + r.Intn(3) {
			letters += pick(r, "r", "s", "c", "w", "a", "d", "n")
		}
		parts = append(parts, letters+pick(r, "", "", "", "", "x", " "))
		if r.Intn(12) == 0 {
			at := r.Intn(len(parts))
			parts = slices.Insert(parts, at, parts[at])
		}
		_, _, e := wantParse(t, strings.Join(parts, "|"))
		seen[e]++
		if t.Failed() {
			return
		}
	}
	if seen[api.OK] < 5000 || seen[api.ErrForm] < 5000 {
		t.Error(seen)
	}
}

// P17.3 and P17.5: decisions by chance, and rules after the one that decides.
func TestDecideByChance(t *testing.T) {
	r := rand.New(rand.NewSource(4))
	seen := map[bool]int{}
	for range 6000 {
		l := rulesByChance(r, 12)
		a, key := askerByChance(r), keyByChance(r)
		if r.Intn(3) == 0 {
			key = a.Key
		}
		attr := ""
		if r.Intn(2) == 0 {
			attr = pick(r, schema.Attributes()...).Name
		}
		for _, right := range []int{1, 2, 4, 8, 16, 32, 64, pick(r, none...)} {
			want := modelDecide(l, a, key, attr, right)
			wantDecide(t, l, a, key, attr, right, want)
			seen[want]++
			for i, x := range l {
				if modelRight(x) && modelApplies(x, a, key, attr, right) {
					wantDecide(t, append(slices.Clone(l[:i+1]), rulesByChance(r, 4)...), a, key, attr, right, want)
					wantDecide(t, l[:i], a, key, attr, right, false)
					break
				}
			}
		}
		if t.Failed() {
			return
		}
	}
	if seen[true] < 5000 || seen[false] < 5000 {
		t.Error(seen)
	}
}
