package schema_test

import (
	"maps"
	"math/rand"
	"reflect"
	"slices"
	"strconv"
	"strings"
	"testing"

	"peerage/api"
	"peerage/schema"
)

// attributeRows is the chapter's table of the attributes.
const attributeRows = `
| objectClass | - | 2.5.4.0 | 9 | no |
| cn | commonName | 2.5.4.3 | 1 | no |
| sn | surname | 2.5.4.4 | 1 | no |
| serialNumber | - | 2.5.4.5 | 2 | no |
| c | countryName | 2.5.4.6 | 1 | yes |
| o | organizationName | 2.5.4.10 | 1 | no |
| ou | organizationalUnitName | 2.5.4.11 | 1 | no |
| description | - | 2.5.4.13 | 1 | no |
| telephoneNumber | - | 2.5.4.20 | 7 | no |
| member | - | 2.5.4.31 | 6 | no |
| owner | - | 2.5.4.32 | 6 | no |
| seeAlso | - | 2.5.4.34 | 6 | no |
| userPassword | - | 2.5.4.35 | 5 | no |
| givenName | - | 2.5.4.42 | 1 | no |
| uid | userid | 0.9.2342.19200300.100.1.1 | 1 | no |
| mail | - | 0.9.2342.19200300.100.1.3 | 1 | no |
| dc | domainComponent | 0.9.2342.19200300.100.1.25 | 1 | yes |
| employeeNumber | - | 2.16.840.1.113730.3.1.3 | 3 | yes |
| enabled | - | 1.3.6.1.4.1.99999.1 | 4 | yes |
| weight | - | 1.3.6.1.4.1.99999.2 | 8 | yes |
`

// classRows is the chapter's table of the classes.
const classRows = `
| top | 2.5.6.0 | - | 0 | objectClass | - |
| country | 2.5.6.2 | top | 1 | c | description |
| organization | 2.5.6.4 | top | 1 | o | description telephoneNumber |
| organizationalUnit | 2.5.6.5 | top | 1 | ou | description seeAlso telephoneNumber |
| person | 2.5.6.6 | top | 1 | cn sn | description seeAlso telephoneNumber userPassword |
| inetOrgPerson | 2.16.840.1.113730.3.2.2 | person | 1 | - | employeeNumber givenName mail uid |
| group | 1.3.6.1.4.1.99999.3.1 | top | 1 | cn | description member owner seeAlso |
| device | 2.5.6.14 | top | 1 | cn | description owner serialNumber weight |
| dcObject | 1.3.6.1.4.1.1466.344 | top | 2 | dc | - |
| login | 1.3.6.1.4.1.99999.3.2 | top | 2 | - | enabled uid userPassword |
`

// rows returns the cells of a table, where - is an empty one.
func rows(table string) [][]string {
	var l [][]string
	for line := range strings.Lines(strings.TrimSpace(table)) {
		cells := strings.Split(strings.Trim(line, "| \n"), " | ")
		for i, cell := range cells {
			if cell == "-" {
				cells[i] = ""
			}
		}
		l = append(l, cells)
	}
	return l
}

// number returns the number of some digits.
func number(s string) int {
	n, err := strconv.Atoi(s)
	if err != nil {
		panic(err)
	}
	return n
}

// modelAttributes is P8.1.
func modelAttributes() []schema.Attribute {
	var l []schema.Attribute
	for _, r := range rows(attributeRows) {
		l = append(l, schema.Attribute{Name: r[0], Alias: r[1], Oid: r[2], Syntax: number(r[3]), Single: r[4] == "yes"})
	}
	return l
}

// modelClasses is P8.1.
func modelClasses() []schema.Class {
	var l []schema.Class
	for _, r := range rows(classRows) {
		l = append(l, schema.Class{Name: r[0], Oid: r[1], Super: r[2], Kind: number(r[3]), Must: strings.Fields(r[4]), May: strings.Fields(r[5])})
	}
	return l
}

// sameClass tells whether two classes are equal, also where a list is nil in one and empty in the other.
func sameClass(a, b schema.Class) bool {
	return a.Name == b.Name && a.Oid == b.Oid && a.Super == b.Super && a.Kind == b.Kind && slices.Equal(a.Must, b.Must) && slices.Equal(a.May, b.May)
}

// lower makes small letters of A to Z alone.
func lower(s string) string {
	b := []byte(s)
	for i, c := range b {
		if strings.IndexByte("ABCDEFGHIJKLMNOPQRSTUVWXYZ", c) >= 0 {
			b[i] = c + 32
		}
	}
	return string(b)
}

// model holds the tables by all their names, and the names of the superclasses of each class by its name.
type model struct {
	attributes map[string]schema.Attribute
	classes    map[string]schema.Class
	above      map[string]map[string]bool
}

func newModel() model {
	m := model{map[string]schema.Attribute{}, map[string]schema.Class{}, map[string]map[string]bool{}}
	for _, a := range modelAttributes() {
		for _, s := range []string{a.Name, a.Alias, a.Oid} {
			if s != "" {
				m.attributes[lower(s)] = a
			}
		}
	}
	for _, c := range modelClasses() {
		m.classes[lower(c.Name)], m.classes[c.Oid] = c, c
	}
	for _, c := range modelClasses() {
		m.above[c.Name] = m.superclasses(c)
	}
	return m
}

// superclasses is the definition.
func (m model) superclasses(c schema.Class) map[string]bool {
	set := map[string]bool{c.Name: true}
	if c.Super != "" {
		maps.Copy(set, m.superclasses(m.classes[lower(c.Super)]))
	}
	return set
}

// find is P8.2: an identifier has no letters.
func (m model) find(s string) (schema.Attribute, bool) {
	a, ok := m.attributes[lower(s)]
	return a, ok
}

// findClass is P8.2.
func (m model) findClass(s string) (schema.Class, bool) {
	c, ok := m.classes[lower(s)]
	return c, ok
}

// all is P8.3.
func (m model) all(classes []string) (must, may []string, e api.Errno) {
	needed, allowed := map[string]bool{}, map[string]bool{}
	for _, s := range classes {
		given, ok := m.findClass(s)
		if !ok {
			return nil, nil, api.ErrNone
		}
		for name := range m.above[given.Name] {
			c, _ := m.findClass(name)
			for _, a := range c.Must {
				needed[a] = true
			}
			for _, a := range c.May {
				allowed[a] = true
			}
		}
	}
	for a := range needed {
		delete(allowed, a)
	}
	return slices.Sorted(maps.Keys(needed)), slices.Sorted(maps.Keys(allowed)), api.OK
}

// check is P8.4.
func (m model) check(classes, attrs []string) api.Errno {
	must, may, e := m.all(classes)
	if e != api.OK {
		return e
	}
	given := map[string]bool{}
	for _, s := range attrs {
		a, ok := m.find(s)
		if !ok {
			return api.ErrNone
		}
		given[a.Name] = true
	}
	if !m.structure(classes) {
		return api.ErrState
	}
	for _, a := range must {
		if !given[a] {
			return api.ErrForm
		}
	}
	for a := range given {
		if !slices.Contains(must, a) && !slices.Contains(may, a) {
			return api.ErrArg
		}
	}
	return api.OK
}

// structure is what P8.4 demands of the structural ones of some classes.
func (m model) structure(classes []string) bool {
	some := false
	for _, s := range classes {
		a, _ := m.findClass(s)
		some = some || a.Kind == 1
		for _, z := range classes {
			b, _ := m.findClass(z)
			if a.Kind == 1 && b.Kind == 1 && !m.above[a.Name][b.Name] && !m.above[b.Name][a.Name] {
				return false
			}
		}
	}
	return some
}

// wantFind holds Find and FindClass of s against the model.
func wantFind(t *testing.T, m model, s string) {
	t.Helper()
	want, wantOk := m.find(s)
	if a, ok := schema.Find(s); a != want || ok != wantOk {
		t.Errorf("Find of %q: %v %v instead of %v %v", s, a, ok, want, wantOk)
	}
	wantClass, wantOk := m.findClass(s)
	if c, ok := schema.FindClass(s); !sameClass(c, wantClass) || ok != wantOk {
		t.Errorf("FindClass of %q: %v %v instead of %v %v", s, c, ok, wantClass, wantOk)
	}
}

// wantAll holds All of some classes against the model.
func wantAll(t *testing.T, m model, classes []string) {
	t.Helper()
	wantMust, wantMay, wantError := m.all(classes)
	must, may, e := schema.All(classes)
	if !slices.Equal(must, wantMust) || !slices.Equal(may, wantMay) || e != wantError {
		t.Errorf("All of %q: %q %q %d instead of %q %q %d", classes, must, may, e, wantMust, wantMay, wantError)
	}
}

// wantCheck holds Check of some classes and attributes against the model, and returns the error.
func wantCheck(t *testing.T, m model, classes, attrs []string) api.Errno {
	t.Helper()
	want := m.check(classes, attrs)
	if e := schema.Check(classes, attrs); e != want {
		t.Errorf("Check of %q and %q: %d instead of %d", classes, attrs, e, want)
	}
	return want
}

// eachSet calls see for each set of the names of classes, in the order of the table.
func eachSet(see func(classes []string)) {
	all := modelClasses()
	for bits := range 1 << len(all) {
		var set []string
		for i, c := range all {
			if bits>>i&1 == 1 {
				set = append(set, c.Name)
			}
		}
		see(set)
	}
}

// casings returns s with other letters, small and great.
func casings(s string) []string {
	mixed := []byte(s)
	for i, c := range mixed {
		if c >= 'a' && c <= 'z' && i%2 == 0 || c >= 'A' && c <= 'Z' {
			mixed[i] = c ^ 32
		}
	}
	return []string{s, lower(s), strings.ToUpper(s), string(mixed)}
}

// allNames returns all strings by which attributes or classes are found.
func allNames() []string {
	var l []string
	for _, a := range modelAttributes() {
		l = append(l, a.Name, a.Oid)
		if a.Alias != "" {
			l = append(l, a.Alias)
		}
	}
	for _, c := range modelClasses() {
		l = append(l, c.Name, c.Oid)
	}
	return l
}

// Terms: the constants.
func TestConstants(t *testing.T) {
	got := []int{schema.Words, schema.Exact, schema.Whole, schema.Truth, schema.Octets, schema.Name, schema.Numeric, schema.Real, schema.Object, schema.Abstract, schema.Structural, schema.Auxiliary}
	if !slices.Equal(got, []int{1, 2, 3, 4, 5, 6, 7, 8, 9, 0, 1, 2}) {
		t.Error(got)
	}
}

// P8.1.
func TestTables(t *testing.T) {
	if l := schema.Attributes(); !slices.Equal(l, modelAttributes()) || len(l) != 20 {
		t.Error(l)
	}
	if l := schema.Classes(); !slices.EqualFunc(l, modelClasses(), sameClass) || len(l) != 10 {
		t.Error(l)
	}
}

// P8.2: each name, other name and identifier.
func TestFind(t *testing.T) {
	for _, a := range modelAttributes() {
		for _, s := range append(append(casings(a.Name), casings(a.Alias)...), a.Oid) {
			got, ok := schema.Find(s)
			if s != "" && (got != a || !ok) {
				t.Errorf("%q: %v %v", s, got, ok)
			}
		}
	}
	for _, c := range modelClasses() {
		for _, s := range append(casings(c.Name), c.Oid) {
			if got, ok := schema.FindClass(s); !sameClass(got, c) || !ok {
				t.Errorf("%q: %v %v", s, got, ok)
			}
		}
	}
	for s, want := range map[string]string{"SURNAME": "sn", "CommonName": "cn", "userId": "uid", "2.5.4.31": "member", "DC": "dc", "domaincomponent": "dc", "OBJECTCLASS": "objectClass"} {
		if a, ok := schema.Find(s); a.Name != want || !ok {
			t.Errorf("%q: %v %v", s, a, ok)
		}
	}
}

// P8.2: what is not found.
func TestFindNothing(t *testing.T) {
	for _, s := range []string{
		"", "-", " ", "x", "\x00", "cn ", " cn", "cn;lang-de", "cn;", "commonNames", "common name", "common-name", "2.5.4", "2.5.4.", "2.5.4.03", "02.5.4.3", "2.5.4.3.", ".2.5.4.3", "2.5.4.3 ", "2.5.4.33", "oid.2.5.4.3", "2,5,4,3",
		"organisationName", "objectClasses", "title", "st", "l", "street", "2.5.4.1", "2.5.4.7", "2.5.4.50", "2.5.6.1", "2.5.6.9", "groupOfNames", "account", "dcobject ", "1.3.6.1.4.1.99999.3", "1.3.6.1.4.1.99999", "1.3.6.1.4.1.99999.3.3",
		"\u017fn", "\u017furname", "c\u0274", "\uff43\uff4e", "de\u017fcription", "o\u0308", "k\u00e9", "mem\xff", "cn\x00", "login\n", "per\u017fon", "inetOrgPer\u017fon", "\u0131netOrgPerson", "\u0130netOrgPerson", "u\u0131d", "ma\u0130l",
		strings.Repeat("c", 1000), strings.Repeat("cn", 500), strings.Repeat("x", 1<<20),
	} {
		if a, ok := schema.Find(s); a != (schema.Attribute{}) || ok {
			t.Errorf("%q: %v %v", s, a, ok)
		}
		if c, ok := schema.FindClass(s); !sameClass(c, schema.Class{}) || ok {
			t.Errorf("%q: %v %v", s, c, ok)
		}
	}
	for _, a := range modelAttributes() {
		for _, s := range []string{a.Name, a.Alias, a.Oid} {
			if c, ok := schema.FindClass(s); !sameClass(c, schema.Class{}) || ok {
				t.Errorf("%q: %v %v", s, c, ok)
			}
		}
	}
	for _, c := range modelClasses() {
		for _, s := range []string{c.Name, c.Oid, c.Super} {
			if a, ok := schema.Find(s); a != (schema.Attribute{}) || ok {
				t.Errorf("%q: %v %v", s, a, ok)
			}
		}
	}
}

// P8.2: all short strings.
func TestFindShort(t *testing.T) {
	m := newModel()
	level := []string{""}
	for range 5 {
		var next []string
		for _, s := range level {
			wantFind(t, m, s)
			for _, c := range "cnosudiCNOtp.2" {
				next = append(next, s+string(c))
			}
		}
		level = next
	}
}

// P8.2: each byte in the place of each byte of each name, between them, or left out.
func TestFindNearly(t *testing.T) {
	m := newModel()
	for _, s := range allNames() {
		for at := range len(s) + 1 {
			end := min(at+1, len(s))
			wantFind(t, m, s[:at])
			wantFind(t, m, s[at:])
			wantFind(t, m, s[:at]+s[end:])
			for c := range 256 {
				b := string([]byte{byte(c)})
				wantFind(t, m, s[:at]+b+s[at:])
				wantFind(t, m, s[:at]+b+s[end:])
			}
		}
	}
}

// P8.3.
func TestAll(t *testing.T) {
	for _, c := range []struct{ classes, must, may string }{
		{"", "", ""},
		{"top", "objectClass", ""},
		{"country", "c objectClass", "description"},
		{"organization", "o objectClass", "description telephoneNumber"},
		{"organizationalUnit", "objectClass ou", "description seeAlso telephoneNumber"},
		{"person", "cn objectClass sn", "description seeAlso telephoneNumber userPassword"},
		{"inetOrgPerson", "cn objectClass sn", "description employeeNumber givenName mail seeAlso telephoneNumber uid userPassword"},
		{"group", "cn objectClass", "description member owner seeAlso"},
		{"device", "cn objectClass", "description owner serialNumber weight"},
		{"dcObject", "dc objectClass", ""},
		{"login", "objectClass", "enabled uid userPassword"},
		{"login inetOrgPerson", "cn objectClass sn", "description employeeNumber enabled givenName mail seeAlso telephoneNumber uid userPassword"},
		{"dcObject organization login", "dc o objectClass", "description enabled telephoneNumber uid userPassword"},
		// Classes that no entry may have together.
		{"group device country", "c cn objectClass", "description member owner seeAlso serialNumber weight"},
		// Other names, and classes more than once.
		{"PERSON person 2.5.6.6 top", "cn objectClass sn", "description seeAlso telephoneNumber userPassword"},
		{"2.5.6.0", "objectClass", ""},
	} {
		must, may, e := schema.All(strings.Fields(c.classes))
		if !slices.Equal(must, strings.Fields(c.must)) || !slices.Equal(may, strings.Fields(c.may)) || e != api.OK {
			t.Errorf("%s: %q %q %d", c.classes, must, may, e)
		}
	}
	if must, may, e := schema.All(nil); len(must) != 0 || len(may) != 0 || e != api.OK {
		t.Error(must, may, e)
	}
}

// P8.3: strings that are no classes, at each place.
func TestAllInvalid(t *testing.T) {
	for _, s := range []string{"", "x", "cn", "2.5.4.3", "person ", "top\x00", "per\u017fon", "2.5.6.06", "-"} {
		for _, l := range [][]string{{s}, {s, "person"}, {"person", s}, {"person", s, "login"}, {s, s}, {"group", "device", s}} {
			if must, may, e := schema.All(l); len(must) != 0 || len(may) != 0 || e != api.ErrNone {
				t.Errorf("%q: %q %q %d", l, must, may, e)
			}
		}
	}
}

// P8.3: all sets of classes, in order and by chance in others, with other names and some more than once.
func TestAllSets(t *testing.T) {
	m := newModel()
	r := rand.New(rand.NewSource(8))
	eachSet(func(set []string) {
		wantAll(t, m, set)
		for range 3 {
			wantAll(t, m, m.respelledClasses(r, set))
		}
	})
}

// respelledClasses returns the same classes by other names, in another order and some of them again.
func (m model) respelledClasses(r *rand.Rand, set []string) []string {
	var l []string
	for _, name := range set {
		c, _ := m.findClass(name)
		for range 1 + r.Intn(2) {
			l = append(l, append(casings(c.Name), c.Oid)[r.Intn(5)])
		}
	}
	r.Shuffle(len(l), func(i, j int) { l[i], l[j] = l[j], l[i] })
	return l
}

// respelled does the same for attributes.
func (m model) respelled(r *rand.Rand, set []string) []string {
	var l []string
	for _, name := range set {
		a, _ := m.find(name)
		names := append(casings(a.Name), a.Oid)
		if a.Alias != "" {
			names = append(names, casings(a.Alias)...)
		}
		for range 1 + r.Intn(2) {
			l = append(l, names[r.Intn(len(names))])
		}
	}
	r.Shuffle(len(l), func(i, j int) { l[i], l[j] = l[j], l[i] })
	return l
}

// P8.4, with each error, and each error before the ones after it.
func TestCheck(t *testing.T) {
	for _, c := range []struct {
		classes, attrs string
		want           api.Errno
	}{
		{"person", "objectClass cn sn", api.OK},
		{"person", "sn objectClass cn description userPassword", api.OK},
		{"top person", "objectClass cn sn", api.OK},
		{"person inetOrgPerson", "objectClass cn sn mail", api.OK},
		{"inetOrgPerson person top", "objectClass cn sn mail", api.OK},
		{"inetOrgPerson", "objectClass cn sn mail uid seeAlso", api.OK},
		{"person PERSON 2.5.6.6", "objectClass cn sn", api.OK},
		{"organization dcObject", "objectClass o dc", api.OK},
		{"device login", "objectClass cn weight enabled", api.OK},
		{"organization dcObject login", "objectClass o dc uid telephoneNumber", api.OK},
		{"person", "OBJECTCLASS commonName 2.5.4.4", api.OK},
		{"person", "objectClass objectClass cn CN 2.5.4.3 surname SN", api.OK},
		{"country", "c objectClass", api.OK},
		// What is not there.
		{"x", "", api.ErrNone},
		{"person x", "objectClass cn sn", api.ErrNone},
		{"cn", "objectClass cn sn", api.ErrNone},
		{"person", "x", api.ErrNone},
		{"person", "objectClass cn sn x", api.ErrNone},
		{"person", "objectClass cn sn person", api.ErrNone},
		{"person", "objectClass cn;lang-de sn", api.ErrNone},
		{"", "x", api.ErrNone},
		{"top", "x", api.ErrNone},
		{"person group", "x", api.ErrNone},
		{"person group x", "objectClass", api.ErrNone},
		{"person", "ou x", api.ErrNone},
		{"x", "x", api.ErrNone},
		// No structural class, or two that are not in line.
		{"", "", api.ErrState},
		{"", "objectClass cn", api.ErrState},
		{"top", "objectClass", api.ErrState},
		{"dcObject", "objectClass dc", api.ErrState},
		{"dcObject login top", "objectClass dc", api.ErrState},
		{"login", "weight", api.ErrState},
		{"person group", "objectClass cn sn", api.ErrState},
		{"group person", "objectClass cn sn", api.ErrState},
		{"inetOrgPerson device", "objectClass cn sn", api.ErrState},
		{"person inetOrgPerson group", "objectClass cn sn", api.ErrState},
		{"inetOrgPerson login group person", "objectClass cn sn", api.ErrState},
		{"organization organizationalUnit", "objectClass o ou", api.ErrState},
		{"country organization", "weight", api.ErrState},
		// What must be there.
		{"person", "", api.ErrForm},
		{"person", "objectClass cn", api.ErrForm},
		{"person", "objectClass sn", api.ErrForm},
		{"person", "cn sn", api.ErrForm},
		{"inetOrgPerson", "objectClass cn mail", api.ErrForm},
		{"organization dcObject", "objectClass o", api.ErrForm},
		{"person", "objectClass cn ou weight", api.ErrForm},
		// What may not be there.
		{"person", "objectClass cn sn ou", api.ErrArg},
		{"person", "objectClass cn sn mail", api.ErrArg},
		{"person", "ou objectClass cn sn description", api.ErrArg},
		{"group", "objectClass cn sn", api.ErrArg},
		{"organization", "objectClass o domainComponent", api.ErrArg},
		{"device login", "objectClass cn member", api.ErrArg},
	} {
		if e := schema.Check(strings.Fields(c.classes), strings.Fields(c.attrs)); e != c.want {
			t.Errorf("%s with %s: %d instead of %d", c.classes, c.attrs, e, c.want)
		}
	}
	for _, l := range [][]string{{""}, {"", "person"}, {"person", ""}} {
		if e := schema.Check(l, []string{"objectClass", "cn", "sn"}); e != api.ErrNone {
			t.Errorf("%q: %d", l, e)
		}
		if e := schema.Check([]string{"person"}, append(l[:1:1], "cn")); e != api.ErrNone {
			t.Errorf("%q: %d", l, e)
		}
	}
}

// P8.4: all sets of classes with what they must have, without one of these, with what they may have, and with one more.
func TestCheckSets(t *testing.T) {
	m := newModel()
	r := rand.New(rand.NewSource(84))
	seen := map[api.Errno]int{}
	eachSet(func(set []string) {
		must, may, _ := m.all(set)
		lists := [][]string{nil, must, slices.Concat(must, may), slices.Concat(may, must), may}
		for i := range must {
			lists = append(lists, slices.Concat(must[:i], must[i+1:]), slices.Concat(must[:i], must[i+1:], may))
		}
		for _, a := range modelAttributes() {
			lists = append(lists, append(slices.Clip(must), a.Name), slices.Concat([]string{a.Name}, may, must))
		}
		for _, l := range lists {
			seen[wantCheck(t, m, set, l)]++
			wantCheck(t, m, m.respelledClasses(r, set), m.respelled(r, l))
		}
	})
	for _, e := range []api.Errno{api.OK, api.ErrState, api.ErrForm, api.ErrArg} {
		if seen[e] < 50 {
			t.Error(e, seen[e])
		}
	}
}

// P8.3 and P8.4 by chance, with some strings that are no classes or no attributes.
func TestByChance(t *testing.T) {
	m := newModel()
	r := rand.New(rand.NewSource(88))
	names := append(allNames(), "", "x", "2.5", "cn;x")
	pick := func(some []string) string {
		if r.Intn(20) == 0 {
			return names[r.Intn(len(names))]
		}
		return some[r.Intn(len(some))]
	}
	attributes, classes := slices.Sorted(maps.Keys(m.attributes)), slices.Sorted(maps.Keys(m.classes))
	for range 50000 {
		var l, attrs []string
		for range r.Intn(4) {
			l = append(l, pick(classes))
		}
		must, may, _ := m.all(l)
		for _, a := range append(must, may...) {
			if r.Intn(8) > 0 {
				attrs = append(attrs, a)
			}
		}
		for range r.Intn(3) {
			attrs = append(attrs, pick(attributes))
		}
		wantAll(t, m, l)
		wantCheck(t, m, l, attrs)
	}
}

// P8.5.
func TestAddedClasses(t *testing.T) {
	eachSet(func(set []string) {
		must, may, _ := schema.All(set)
		for _, c := range modelClasses() {
			for _, more := range [][]string{append(slices.Clip(set), c.Name), append([]string{c.Oid}, set...)} {
				moreMust, moreMay, e := schema.All(more)
				if e != api.OK {
					t.Errorf("%q: %d", more, e)
				}
				for _, a := range must {
					if !slices.Contains(moreMust, a) {
						t.Errorf("%q and %s: %s need not be any more", set, c.Name, a)
					}
				}
				for _, a := range may {
					if !slices.Contains(moreMust, a) && !slices.Contains(moreMay, a) {
						t.Errorf("%q and %s: %s may not be any more", set, c.Name, a)
					}
				}
			}
		}
	})
}

// spoil writes over a list and its spare capacity.
func spoil[T any](l []T, with T) {
	l = l[:cap(l)]
	for i := range l {
		l[i] = with
	}
}

// spoilClass writes over the lists of a class.
func spoilClass(c schema.Class) {
	spoil(c.Must, "spoiled")
	spoil(c.May, "spoiled")
}

// Rule 4: results are new memory.
func TestResultsAreNew(t *testing.T) {
	m := newModel()
	for range 2 {
		for _, c := range schema.Classes() {
			spoilClass(c)
		}
		spoil(schema.Classes(), schema.Class{Name: "spoiled", Must: []string{"spoiled"}})
		spoil(schema.Attributes(), schema.Attribute{Name: "spoiled"})
		TestTables(t)
		for _, s := range allNames() {
			if c, ok := schema.FindClass(s); ok {
				spoilClass(c)
			}
			wantFind(t, m, s)
		}
		TestTables(t)
		eachSet(func(set []string) {
			must, may, _ := schema.All(set)
			kept := slices.Clone(may)
			spoil(must, "spoiled")
			if !slices.Equal(may, kept) {
				t.Errorf("%q: %q", set, may)
			}
			spoil(may, "spoiled")
			wantAll(t, m, set)
		})
		TestTables(t)
	}
}

// Rule 4: no two lists of one result share memory.
func TestListsAreApart(t *testing.T) {
	l := schema.Classes()
	for i := range l {
		spoilClass(l[i])
		for j, c := range modelClasses() {
			if j > i && !sameClass(l[j], c) {
				t.Errorf("%s: %v", l[i].Name, l[j])
			}
		}
	}
}

// Rules 4 and 8: arguments are left as they are, and what comes after their ends is not read.
func TestArgumentsStay(t *testing.T) {
	classes := []string{"PERSON", "login", "dcObject", "2.5.6.6", "past", "the end"}
	attrs := []string{"sn", "CN", "dc", "objectClass", "2.5.4.3", "cn", "past", "the end"}
	keptClasses, keptAttrs := slices.Clone(classes), slices.Clone(attrs)
	if must, may, e := schema.All(classes[:4]); len(must) != 4 || len(may) != 6 || e != api.OK {
		t.Error(must, may, e)
	}
	if e := schema.Check(classes[:4], attrs[:6]); e != api.OK {
		t.Error(e)
	}
	if !slices.Equal(classes, keptClasses) || !slices.Equal(attrs, keptAttrs) {
		t.Error(classes, attrs)
	}
}

// Rule 5: the same arguments have the same results.
func TestRepeatable(t *testing.T) {
	classes := []string{"login", "inetOrgPerson", "dcObject", "device"}
	must, may, _ := schema.All(classes)
	for range 200 {
		if again, others, _ := schema.All(classes); !reflect.DeepEqual(again, must) || !reflect.DeepEqual(others, may) {
			t.Fatal(again, others)
		}
	}
}

// Long lists, with many classes and attributes again and again.
func TestLongLists(t *testing.T) {
	const times = 100000
	classes := slices.Repeat([]string{"person", "LOGIN", "inetOrgPerson", "top"}, times)
	attrs := slices.Repeat([]string{"cn", "SURNAME", "2.5.4.0", "mail", "enabled"}, times)
	must, may, e := schema.All(classes)
	if !slices.Equal(must, []string{"cn", "objectClass", "sn"}) || len(may) != 9 || e != api.OK {
		t.Error(must, may, e)
	}
	for _, c := range []struct {
		class, attr string
		want        api.Errno
	}{
		{"dcObject", "dc", api.OK}, {"x", "cn", api.ErrNone}, {"top", "x", api.ErrNone}, {"group", "cn", api.ErrState}, {"dcObject", "cn", api.ErrForm}, {"top", "weight", api.ErrArg},
	} {
		if e := schema.Check(append(slices.Clip(classes), c.class), append(slices.Clip(attrs), c.attr)); e != c.want {
			t.Errorf("%s %s: %d", c.class, c.attr, e)
		}
	}
}
