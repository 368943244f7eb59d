package truth_test

import (
	"math"
	"slices"
	"strings"
	"testing"
	"unsafe"

	"peerage/api"
	"peerage/attrs"
	"peerage/entry"
	"peerage/filter"
	"peerage/schema"
	"peerage/truth"
)

// values are all that a filter can have.
var values = []int{truth.False, truth.True, truth.Undefined}

// parsed returns the filter with this text.
func parsed(t *testing.T, s string) filter.Filter {
	t.Helper()
	f, e := filter.Parse(s)
	if e != api.OK {
		t.Fatalf("%q: %d", s, e)
	}
	return f
}

// attr returns an attribute.
func attr(name string, values ...string) attrs.Attr {
	return attrs.Attr{Name: name, Values: values}
}

// entryOf returns an entry with these attributes, whatever its class demands.
func entryOf(t *testing.T, l ...attrs.Attr) entry.Entry {
	t.Helper()
	l, e := attrs.Make(l)
	if e != api.OK {
		t.Fatalf("%q: %d", l, e)
	}
	return entry.Entry{Key: "cn=js,o=x", Name: "cn=js,o=x", Attrs: l}
}

// sample returns an entry with attributes of each syntax. It has no description, o, sn or seeAlso.
func sample(t *testing.T) entry.Entry {
	t.Helper()
	return entryOf(t,
		attr("objectClass", "person", "1.2.3", "X-y"),
		attr("cn", "John  Smith", "JS"),
		attr("serialNumber", "Ab  1", "ab 2"),
		attr("employeeNumber", "-007"),
		attr("enabled", "TRUE"),
		attr("userPassword", "\x00\xff", "Secret"),
		attr("owner", "cn=A, o=X", "ou=b"),
		attr("telephoneNumber", "12 34", "0 9"),
		attr("weight", "3ff0000000000000"),
	)
}

// wantEval holds Eval against the value that is wanted and against the model, and Types against the model.
func wantEval(t *testing.T, f filter.Filter, e entry.Entry, hidden []string, want int) {
	t.Helper()
	if got := truth.Eval(f, e, hidden); got != want {
		t.Errorf("Eval of %q, hidden %q: %d instead of %d", filter.Text(f), hidden, got, want)
	}
	if model := modelEval(f, e, hidden); model != want {
		t.Errorf("the model of %q, hidden %q: %d instead of %d", filter.Text(f), hidden, model, want)
	}
	wantTypes(t, f, modelTypes(f)...)
}

// wantTypes holds Types against the names that are wanted.
func wantTypes(t *testing.T, f filter.Filter, want ...string) {
	t.Helper()
	if got := truth.Types(f); !slices.Equal(got, want) {
		t.Errorf("Types of %q: %q instead of %q", filter.Text(f), got, want)
	}
}

// wantTexts holds the values of filters on the sample entry.
func wantTexts(t *testing.T, want int, texts ...string) {
	t.Helper()
	e := sample(t)
	for _, s := range texts {
		wantEval(t, parsed(t, s), e, nil, want)
	}
}

func TestValues(t *testing.T) {
	if !slices.Equal(values, []int{0, 1, 2}) {
		t.Error(values)
	}
}

// P15.1: all values, and numbers that are none.
func TestLogic(t *testing.T) {
	numbers := append([]int{-1, -2, 3, 4, 7, 256, 257, 1 << 32, 1<<32 + 1, math.MaxInt, math.MinInt}, values...)
	for _, a := range numbers {
		for _, b := range numbers {
			x, y := setOf(a), setOf(b)
			if got, want := truth.Both(a, b), lifted(x, y, and).number(); got != want {
				t.Errorf("Both of %d and %d: %d", a, b, got)
			}
			if got, want := truth.Either(a, b), lifted(x, y, or).number(); got != want {
				t.Errorf("Either of %d and %d: %d", a, b, got)
			}
		}
		want := map[int]int{truth.False: truth.True, truth.True: truth.False}
		if n, is := want[a]; is && truth.Turned(a) != n || !is && truth.Turned(a) != truth.Undefined {
			t.Errorf("Turned of %d: %d", a, truth.Turned(a))
		}
	}
}

// P15.1: the tables, as the chapter states them.
func TestTables(t *testing.T) {
	const no, yes, open = truth.False, truth.True, truth.Undefined
	for _, x := range []struct{ a, b, both, either int }{
		{no, no, no, no}, {no, yes, no, yes}, {no, open, no, open},
		{yes, no, no, yes}, {yes, yes, yes, yes}, {yes, open, open, yes},
		{open, no, no, open}, {open, yes, open, yes}, {open, open, open, open},
		{no, 9, no, open}, {-1, no, no, open}, {yes, 9, open, yes}, {-1, yes, open, yes}, {3, -3, open, open}, {open, 3, open, open},
	} {
		if got := truth.Both(x.a, x.b); got != x.both {
			t.Errorf("Both of %d and %d: %d", x.a, x.b, got)
		}
		if got := truth.Either(x.a, x.b); got != x.either {
			t.Errorf("Either of %d and %d: %d", x.a, x.b, got)
		}
	}
}

// P15.2: Equal and Like.
func TestEqual(t *testing.T) {
	for want, l := range map[int][]string{
		truth.True: {
			"cn=js", "cn=JOHN SMITH", "cn= john   smith ", "commonName=Js", "2.5.4.3=js", `cn=\4as`,
			"serialNumber=Ab 1", "serialNumber= Ab  1", "serialnumber=ab 2",
			"employeeNumber=-7", "employeenumber=-00007", "EMPLOYEENUMBER=-7",
			"enabled=TRUE", `userPassword=\00\ff`, "userPassword=Secret",
			"owner=CN=A , o=x", "owner=2.5.4.3=a;O=X", "owner=OU=B",
			"telephoneNumber=1234", "telephoneNumber= 1 2 3 4 ", "telephoneNumber=09", "weight=3FF0000000000000",
			"objectClass=PERSON", "objectclass=2.5.6.6", "2.5.4.0=person", "objectClass=1.2.3", "objectClass=x-Y",
		},
		truth.False: {
			"cn=j", "cn=jss", "cn=johnsmith", "cn=*a", "serialNumber=AB 1", "serialNumber=ab 1", "employeeNumber=7", "employeeNumber=-70", "employeeNumber=0", "enabled=FALSE",
			"userPassword=", "userPassword=secret", `userPassword=\00`, "userPassword=Secret ", "owner=", "owner=cn=a", "owner=o=x", "owner=cn=a,o=x,o=x", "telephoneNumber=123", "telephoneNumber=9", "weight=4000000000000000", "weight=bff0000000000000",
			"objectClass=top", "objectClass=2.5.6.2", "objectClass=1.2.3.4", "objectClass=inetOrgPerson",
			"o=x", "surname=js", "description=js", "seeAlso=ou=b", "seeAlso=", "member=ou=b",
		},
		truth.Undefined: {
			"cn=", "cn=  ", `cn=\ff`, `cn=js\ff`, `cn=\01`, "serialNumber=", "serialNumber= ", "employeeNumber=", "employeeNumber=x", "employeeNumber=- 7", "employeeNumber=+7", "enabled=true", "enabled=", "enabled= TRUE", "telephoneNumber=", "telephoneNumber=  ", "telephoneNumber=12-34",
			"owner=x", "owner=cn=", "owner=x=a", "owner=cn=a,", "owner=cn=a+cn=b", "weight=1", "weight=", "weight=3ff000000000000", "weight=3ff00000000000000", "objectClass=", "objectClass=1a", "objectClass=1.40", "objectClass=per son",
			"o=", "sn=  ", `description=\ff`, "seeAlso=x", "x=js", "x=", "1.2.3=js", "2.5.4.99=js", "person=js", "cn-=js", "c1=js",
		},
	} {
		for _, s := range l {
			about, v, _ := strings.Cut(s, "=")
			v = strings.ReplaceAll(v, "*", `\2a`)
			wantTexts(t, want, "("+about+"="+v+")", "("+about+"~="+v+")")
		}
	}
}

// P15.2: the length of a Value.
func TestLongValues(t *testing.T) {
	e := sample(t)
	for about, unit := range map[string]string{"cn": "a", "serialnumber": "a", "employeenumber": "1", "userpassword": "a", "telephonenumber": "1"} {
		for _, kind := range []int{filter.Equal, filter.Like, filter.Least, filter.Most} {
			for _, n := range []int{api.MaxText - 1, api.MaxText, api.MaxText + 1, 100 * api.MaxText} {
				f := filter.Filter{Kind: kind, Type: about, Value: strings.Repeat(unit, n)}
				got := truth.Eval(f, e, nil)
				if (got == truth.Undefined) != (n > api.MaxText) {
					t.Errorf("%s, kind %d, %d bytes: %d", about, kind, n, got)
				}
				wantEval(t, f, e, nil, modelEval(f, e, nil))
			}
		}
	}
	// Parts have no limit.
	wantEval(t, filter.Filter{Kind: filter.Sought, Type: "cn", First: strings.Repeat("j", 5000)}, e, nil, truth.False)
	wantEval(t, filter.Filter{Kind: filter.Sought, Type: "cn", First: strings.Repeat(" ", 5000) + "js"}, e, nil, truth.True)
}

// P15.2: Present.
func TestPresent(t *testing.T) {
	wantTexts(t, truth.True, "(cn=*)", "(commonname=*)", "(2.5.4.3=*)", "(objectclass=*)", "(serialnumber=*)", "(employeenumber=*)", "(enabled=*)", "(userpassword=*)", "(owner=*)", "(telephonenumber=*)", "(weight=*)")
	wantTexts(t, truth.False, "(sn=*)", "(surname=*)", "(o=*)", "(description=*)", "(seealso=*)", "(member=*)", "(cn;a=*)", "(sn;a=*)")
	wantTexts(t, truth.Undefined, "(x=*)", "(x;a=*)", "(1.2.3=*)", "(2.5.4.99=*)", "(person=*)")
}

// P15.2: Least and Most.
func TestOrder(t *testing.T) {
	wantTexts(t, truth.True,
		"(cn>=js)", "(cn>=JS)", "(cn>=a)", "(cn>=jp)", "(2.5.4.3>=j)", "(cn<=john smith)", "(cn<=k)", "(cn<=JP)", "(commonname<= JOHN  SMITH )",
		"(serialnumber>=ab 2)", "(serialnumber>=ab 10)", "(serialnumber<=Ab 1)", "(serialnumber<= Ab  1 )", "(serialnumber<=a)",
		"(employeenumber>=-7)", "(employeenumber>=-0007)", "(employeenumber>=-8)", "(employeenumber>=-10)", "(employeenumber<=-7)", "(employeenumber<=-6)", "(employeenumber<=0)", "(employeenumber<=5)",
		`(userpassword>=)`, `(userpassword<=\00\ff)`, "(userpassword>=Secret)", "(userpassword<=Secret)", "(userpassword<=A)",
		"(telephonenumber>=1 2 3 4)", "(telephonenumber>=1)", "(telephonenumber>=1233)", "(telephonenumber<=09)", "(telephonenumber<= 1 0)", "(telephonenumber<=9)",
		"(weight>=3FF0000000000000)", "(weight>=0000000000000000)", "(weight>=c000000000000000)", "(weight<=3ff0000000000000)", "(weight<=4000000000000000)", "(weight<=7ff0000000000000)", "(weight<=7ff8000000000000)", "(weight<=fff0000000000001)",
	)
	wantTexts(t, truth.False,
		"(cn>=jt)", "(cn>=jsa)", "(cn<=john)", "(cn<=a)", "(cn<=JOHN SMITG)",
		"(serialnumber>=ab 3)", "(serialnumber>=b)", "(serialnumber<=AB)", "(serialnumber<=Ab 0)",
		"(employeenumber>=-6)", "(employeenumber>=0)", "(employeenumber>=7)", "(employeenumber<=-8)", "(employeenumber<=-10)", "(employeenumber<=-70000000000000000000)",
		"(userpassword>=Secreu)", `(userpassword>=\ff)`, "(userpassword<=)", `(userpassword<=\00)`,
		"(telephonenumber>=1235)", "(telephonenumber>=2)", "(telephonenumber<=08)", "(telephonenumber<=0)",
		"(weight>=4000000000000000)", "(weight>=7ff8000000000000)", "(weight>=fff0000000000001)", "(weight<=0000000000000000)", "(weight<=c000000000000000)",
		"(o>=a)", "(o<=z)", "(sn>=js)", "(surname<=js)",
	)
	wantTexts(t, truth.Undefined,
		"(cn>=)", "(cn<= )", `(cn>=\ff)`, "(employeenumber>=x)", "(employeenumber<=)", "(telephonenumber>=x)", "(telephonenumber<=)", "(weight>=x)", "(weight<=1)", "(weight>=)",
		"(enabled>=TRUE)", "(enabled<=TRUE)", "(enabled>=FALSE)", "(enabled<=x)", "(objectclass>=person)", "(objectclass<=person)", "(objectclass>=1.2.3)", "(objectclass<=1.2.3)", "(owner>=cn=a,o=x)", "(owner<=cn=a,o=x)", "(owner>=ou=b)", "(owner<=)", "(seealso>=o=x)",
		"(o>=)", "(sn<=)", "(x>=1)", "(x<=1)", "(2.5.4.99>=1)",
	)
	// Both zeros are one number, and a NaN is greater than all others.
	for v, l := range map[string]map[int][]string{
		"8000000000000000": {truth.True: {"(weight>=0000000000000000)", "(weight<=0000000000000000)", "(weight=0000000000000000)"}, truth.False: {"(weight>=0000000000000001)", "(weight<=8000000000000001)"}},
		"fff0000000000001": {truth.True: {"(weight>=7ff0000000000000)", "(weight>=7ff8000000000000)", "(weight<=7ff8000000000000)", "(weight=7ff8000000000000)"}, truth.False: {"(weight<=7ff0000000000000)", "(weight<=0000000000000000)"}},
	} {
		for want, texts := range l {
			for _, s := range texts {
				wantEval(t, parsed(t, s), entryOf(t, attr("weight", v)), nil, want)
			}
		}
	}
}

// P15.2: Sought.
func TestSought(t *testing.T) {
	wantTexts(t, truth.True,
		"(cn=j*)", "(cn=J*)", "(cn=*s)", "(cn=*o*)", "(cn=jo*smi*)", "(cn=jo*th)", "(cn=j*s)", "(cn=*hn sm*)", "(cn=*hn    sm*)", "(cn=j*h*s*i*h)", "(cn= j*)", "(cn=*smith )", "(cn=john *)", "(cn=* smith)", "(commonname=js*)", "(2.5.4.3=*js)",
		"(serialnumber=Ab*)", "(serialnumber=*2)", "(serialnumber=a*2)", "(serialnumber=*b  1*)",
		"(telephonenumber=12*4)", "(telephonenumber=1 2*)", "(telephonenumber=*2 3*)", "(telephonenumber=*9)", "(telephonenumber= *)",
	)
	wantTexts(t, truth.False,
		"(cn=s*)", "(cn=*j)", "(cn=*x*)", "(cn=js*smith)", "(cn=john*js)", "(cn=jos*)", "(cn=js*s)", "(cn=*smith*smith*)", "(cn=smi*jo*)", `(cn=\ff*)`, `(cn=*\ff*)`, `(cn=j*\ff)`, `(cn=\2a*)`, "(cn=johnsmith*)",
		"(serialnumber=AB*)", "(serialnumber=A*2)", "(serialnumber=Ab1*)", "(telephonenumber=1*9)", "(telephonenumber=x*)", "(telephonenumber=*12-*)", "(telephonenumber=2*)",
		"(o=a*)", "(o=*x*)", "(description=*a)", "(surname=j*)",
	)
	wantTexts(t, truth.Undefined,
		"(employeenumber=-*)", "(employeenumber=*7)", "(enabled=T*)", "(enabled=*x*)", "(userpassword=S*)", "(userpassword=*x*)",
		"(owner=cn*)", "(owner=*o=x)", "(weight=3*)", "(weight=*x*)", "(objectclass=per*)", "(objectclass=*.*)", "(seealso=*a*)", "(member=o*)", "(x=a*)", "(x=*a*)", "(2.5.4.99=*a)",
	)
}

// P15.2: a Type with options.
func TestOptions(t *testing.T) {
	for _, about := range []string{"cn", "2.5.4.3", "commonname", "sn", "enabled", "owner", "weight", "objectclass"} {
		for _, rest := range []string{"=js", "~=js", ">=js", "<=js", "=j*", "=*s", "=*", "=", "~=", ">=", "<=", `=\ff`, `>=\ff`, `=*\ff*`} {
			for _, options := range []string{";a", ";lang-de", ";a;b", ";-"} {
				wantTexts(t, truth.False, "("+about+options+rest+")")
				wantTexts(t, truth.True, "(!("+about+options+rest+"))")
				wantTexts(t, truth.Undefined, "(x"+options+rest+")", "(2.5.4.99"+options+rest+")")
				name := parsed(t, "("+about+"=*)")
				wantEval(t, parsed(t, "("+about+options+rest+")"), sample(t), truth.Types(name), truth.Undefined)
			}
		}
	}
}

// P15.2: hidden attributes.
func TestHidden(t *testing.T) {
	e := sample(t)
	all := []string{"(cn=js)", "(cn=x)", "(cn=)", "(commonname=js)", "(2.5.4.3=js)", "(cn~=js)", "(cn>=a)", "(cn<=a)", "(cn=j*)", "(cn=*x*)", "(cn=*)", "(cn;a=js)", "(cn;a=*)"}
	for _, s := range all {
		f := parsed(t, s)
		for _, hidden := range [][]string{{"cn"}, {"cn", "cn"}, {"sn", "cn"}, {"cn", "sn"}, {"x", "", "cn", "objectClass"}} {
			wantEval(t, f, e, hidden, truth.Undefined)
		}
		// Only an attribute's Name hides it.
		for _, hidden := range [][]string{nil, {}, {""}, {"CN"}, {"commonName"}, {"2.5.4.3"}, {"c"}, {"cnn"}, {"cn "}, {"cn;a"}, {"sn"}, {"objectClass", "sn", "o"}} {
			wantEval(t, f, e, hidden, truth.Eval(f, e, nil))
		}
	}
	for s, x := range map[string]struct {
		name string
		open int
	}{"(objectclass=person)": {"objectClass", truth.True}, "(surname=*)": {"sn", truth.False}, "(employeenumber>=x)": {"employeeNumber", truth.Undefined}, "(userid=*)": {"uid", truth.False}, "(telephonenumber=1*)": {"telephoneNumber", truth.True}} {
		f := parsed(t, s)
		wantEval(t, f, e, []string{x.name}, truth.Undefined)
		wantEval(t, f, e, []string{strings.ToLower(x.name) + "x", strings.ToUpper(x.name)}, x.open)
	}
	wantEval(t, parsed(t, "(objectclass=person)"), e, []string{"objectclass"}, truth.True)
	// What is hidden in one part does not count in another one.
	for s, want := range map[string]int{
		"(|(sn=a)(cn=js))": truth.Undefined, "(|(enabled=TRUE)(cn=js))": truth.True, "(&(sn=a)(cn=js))": truth.False, "(&(enabled=TRUE)(cn=js))": truth.Undefined, "(!(cn=js))": truth.Undefined, "(!(&(cn=*)(sn=*)))": truth.True, "(&)": truth.True, "(|)": truth.False, "(!(|))": truth.True, "(x=1)": truth.Undefined,
	} {
		wantEval(t, parsed(t, s), e, []string{"cn"}, want)
	}
}

// P15.2: an entry without the attribute, or without any.
func TestOtherEntries(t *testing.T) {
	for _, e := range []entry.Entry{{}, {Key: "cn=js", Name: "cn=js", Version: 3}, entryOf(t, attr("sn", "js"))} {
		for s, want := range map[string]int{"(cn=js)": truth.False, "(cn~=js)": truth.False, "(cn>=a)": truth.False, "(cn<=z)": truth.False, "(cn=*)": truth.False, "(cn=j*)": truth.False, "(cn=)": truth.Undefined, "(cn>=)": truth.Undefined, "(enabled=T*)": truth.Undefined, "(&)": truth.True, "(|)": truth.False, "(!(cn=js))": truth.True} {
			wantEval(t, parsed(t, s), e, nil, want)
		}
	}
	// The functions return for lists that are not normalized too.
	for _, l := range [][]attrs.Attr{{{}}, {attr("x", "a")}, {attr("cn")}, {attr("CN", "js")}, {attr("cn", "", "\xff", "js", "js")}, {attr("cn", "b"), attr("cn", "js")}, make([]attrs.Attr, 1000), {attr("weight", "x", "y")}} {
		for _, s := range []string{"(cn=js)", "(cn=*)", "(cn>=a)", "(cn<=z)", "(cn=*j*)", "(weight>=0000000000000000)", "(weight=x)"} {
			if n := truth.Eval(parsed(t, s), entry.Entry{Attrs: l}, nil); !slices.Contains(values, n) {
				t.Errorf("%s: %d", s, n)
			}
		}
	}
}

// textOf returns the text of a filter without kids that has this value on the sample entry.
func textOf(value int) string {
	return map[int]string{truth.False: "(cn=x)", truth.True: "(cn=js)", truth.Undefined: "(x=1)"}[value]
}

// P15.2 and P15.4: And, Or and Not of all values, in each order.
func TestCombined(t *testing.T) {
	e := sample(t)
	var each func(text string, sizes int, l []int)
	each = func(text string, sizes int, l []int) {
		conjunction, disjunction := truth.True, truth.False
		switch {
		case slices.Contains(l, truth.False):
			conjunction = truth.False
		case slices.Contains(l, truth.Undefined):
			conjunction = truth.Undefined
		}
		switch {
		case slices.Contains(l, truth.True):
			disjunction = truth.True
		case slices.Contains(l, truth.Undefined):
			disjunction = truth.Undefined
		}
		for sign, want := range map[string]int{"&": conjunction, "|": disjunction} {
			f := "(" + sign + text + ")"
			wantEval(t, parsed(t, f), e, nil, want)
			wantEval(t, parsed(t, "(!"+f+")"), e, nil, map[int]int{truth.False: truth.True, truth.True: truth.False, truth.Undefined: truth.Undefined}[want])
			wantEval(t, parsed(t, "(!(!"+f+"))"), e, nil, want)
		}
		if sizes == 0 {
			return
		}
		for _, v := range values {
			each(text+textOf(v), sizes-1, append(slices.Clone(l), v))
		}
	}
	each("", 4, nil)
	for s, want := range map[string]int{
		"(&(|)(&))": truth.False, "(|(|)(&))": truth.True, "(&(&)(&(&)))": truth.True, "(|(|)(|(|)))": truth.False, "(!(&(x=1)(cn=x)))": truth.True, "(|(!(cn=js))(!(!(x=1))))": truth.Undefined, "(&(!(cn=x))(|(cn=js)(x=1)))": truth.True,
	} {
		wantEval(t, parsed(t, s), e, nil, want)
	}
}

// nested returns f within so many Nots.
func nested(f filter.Filter, times int) filter.Filter {
	for range times {
		f = filter.Filter{Kind: filter.Not, Kids: []filter.Filter{f}}
	}
	return f
}

// P15.2, P15.3: the deepest filter, the greatest one, and one beyond.
func TestLimits(t *testing.T) {
	e, leaf := sample(t), parsed(t, "(cn=js)")
	for times := range 14 {
		f, want := nested(leaf, times), []int{truth.True, truth.False}[times%2]
		if times > 9 {
			if n := truth.Eval(f, e, nil); n != truth.Undefined {
				t.Errorf("%d levels: %d", times+1, n)
			}
			wantTypes(t, f)
			continue
		}
		wantEval(t, f, e, nil, want)
		wantTypes(t, f, "cn")
	}
	for _, kind := range []int{filter.And, filter.Or} {
		for n := range 70 {
			f := filter.Filter{Kind: kind, Kids: slices.Repeat([]filter.Filter{leaf}, n)}
			switch {
			case n > 63:
				wantEval(t, f, e, nil, truth.Undefined)
				wantTypes(t, f)
			case n > 0:
				wantEval(t, f, e, nil, truth.True)
				wantTypes(t, f, "cn")
			}
		}
	}
}

// P15.2, P15.3: filters that are not valid.
func TestInvalid(t *testing.T) {
	e, leaf := sample(t), parsed(t, "(cn=js)")
	loop := filter.Filter{Kind: filter.And, Kids: make([]filter.Filter, 1)}
	loop.Kids[0] = loop
	for _, f := range []filter.Filter{
		loop, {Kind: filter.Not}, {Kind: filter.Not, Kids: []filter.Filter{leaf, leaf}}, {Kind: filter.And, Type: "cn"}, {Kind: filter.Or, Kids: []filter.Filter{leaf}, Value: "js"}, {Kind: 9}, {Kind: -1, Kids: []filter.Filter{leaf}}, {Kind: 9, Type: "cn", Value: "js"}, {Kind: math.MaxInt}, {Kind: math.MinInt},
		{Kind: filter.Equal}, {Kind: filter.Equal, Type: "CN", Value: "js"}, {Kind: filter.Equal, Type: "commonName", Value: "js"}, {Kind: filter.Equal, Type: "cn ", Value: "js"}, {Kind: filter.Equal, Type: "cn;", Value: "js"}, {Kind: filter.Equal, Type: "cn;A", Value: "js"}, {Kind: filter.Equal, Type: "cn;b;a", Value: "js"}, {Kind: filter.Equal, Type: "cn", Value: "js", First: "j"}, {Kind: filter.Like, Type: "cn", Value: "js", Kids: []filter.Filter{leaf}},
		{Kind: filter.Present, Type: "cn", Value: "js"}, {Kind: filter.Present}, {Kind: filter.Least, Type: "cn", Value: "js", Last: "s"}, {Kind: filter.Most, Type: "cn", Value: "js", Between: []string{"s"}},
		{Kind: filter.Sought, Type: "cn"}, {Kind: filter.Sought, Type: "cn", First: "j", Value: "js"}, {Kind: filter.Sought, Type: "cn", First: "j", Between: []string{""}}, {Kind: filter.Sought, First: "j"},
	} {
		for _, g := range []filter.Filter{f, nested(f, 1), {Kind: filter.And, Kids: []filter.Filter{{Kind: filter.Or}, f}}, {Kind: filter.Or, Kids: []filter.Filter{f, leaf}}} {
			if n := truth.Eval(g, e, nil); n != truth.Undefined {
				t.Errorf("Eval of %d %q: %d", g.Kind, g.Type, n)
			}
			if l := truth.Types(g); len(l) != 0 {
				t.Errorf("Types of %d %q: %q", g.Kind, g.Type, l)
			}
		}
	}
}

// P15.3: Types.
func TestTypes(t *testing.T) {
	for s, want := range map[string][]string{
		"(cn=a)": {"cn"}, "(commonname=a)": {"cn"}, "(2.5.4.3=a)": {"cn"}, "(SURNAME>=a)": {"sn"}, "(sn<=)": {"sn"}, "(uid~=a)": {"uid"}, "(userid=*)": {"uid"}, "(objectclass=*)": {"objectClass"}, "(TELEPHONENUMBER=1*)": {"telephoneNumber"}, "(cn;a;b=a)": {"cn"}, "(owner;x=*)": {"owner"},
		"(x=1)": nil, "(x;a=*)": nil, "(2.5.4.99>=1)": nil, "(person=*)": nil, "(1.2.3=a*)": nil, "(&)": nil, "(|)": nil, "(!(&))": nil, "(!(x=1))": nil,
		"(&(cn=a)(CN;a=b)(2.5.4.3=*)(!(commonname>=a)))": {"cn"}, "(|(sn=a)(cn=js)(x=b)(!(cn=*)))": {"cn", "sn"},
		"(|(weight=a)(uid=a)(telephonenumber=a)(sn=a)(serialnumber=a)(seealso=a)(ou=a)(owner=a)(objectclass=a)(o=a)(c=a)(cn=a))":                                                                     {"c", "cn", "o", "objectClass", "ou", "owner", "seeAlso", "serialNumber", "sn", "telephoneNumber", "uid", "weight"},
		"(&(member=*)(mail=*)(|(givenname=*)(enabled=*)(!(employeenumber=*)))(description=*)(dc=*)(userpassword=*)(domaincomponent=*)(organizationname=*)(organizationalunitname=*)(countryname=*))": {"c", "dc", "description", "employeeNumber", "enabled", "givenName", "mail", "member", "o", "ou", "userPassword"},
	} {
		f := parsed(t, s)
		wantTypes(t, f, want...)
		wantTypes(t, f, modelTypes(f)...)
	}
	for _, a := range schema.Attributes() {
		for _, about := range []string{a.Name, a.Oid, a.Alias} {
			if about != "" {
				wantTypes(t, parsed(t, "(&(!("+about+"=a))(x=1))"), a.Name)
			}
		}
	}
}

// share tells whether two strings have memory in common.
func share(a, b string) bool {
	from, to := uintptr(unsafe.Pointer(unsafe.StringData(a))), uintptr(unsafe.Pointer(unsafe.StringData(b)))
	return a != "" && b != "" && from < to+uintptr(len(b)) && to < from+uintptr(len(a))
}

// Rule 4: what Types returns is new memory.
func TestTypesAreNew(t *testing.T) {
	f := parsed(t, "(&(sn=a)(cn=a)(cn=b)(o=*)(sn=c))")
	l := truth.Types(f)
	for _, kid := range f.Kids {
		for _, name := range l {
			if share(name, kid.Type) {
				t.Error(name)
			}
		}
	}
	l = l[:cap(l)]
	for i := range l {
		l[i] = "changed"
	}
	wantTypes(t, f, "cn", "o", "sn")
}

// Rule 4: arguments are not modified, nor what is behind them. Rule 5: the same call has the same result.
func TestArgumentsStay(t *testing.T) {
	names := []string{"z", "sn", "a", "behind"}
	between := []string{"o", "h", "behind"}
	kids := []filter.Filter{parsed(t, "(sn=a)"), {Kind: filter.Sought, Type: "cn", First: "J", Between: between[:2]}, parsed(t, "(cn>=A)"), parsed(t, "(o=behind)")}
	f := filter.Filter{Kind: filter.And, Kids: kids[:3]}
	l := append(sample(t).Attrs, attr("behind"))
	e := entry.Entry{Attrs: l[:len(l)-1]}
	before := filter.Text(filter.Filter{Kind: filter.And, Kids: kids})
	for range 5 {
		wantEval(t, f, e, names[:3], truth.Undefined)
		wantEval(t, f, e, nil, truth.False)
		wantTypes(t, f, "cn", "sn")
	}
	if !slices.Equal(names, []string{"z", "sn", "a", "behind"}) || !slices.Equal(between, []string{"o", "h", "behind"}) || l[len(l)-1].Name != "behind" || !attrs.Same(e.Attrs, sample(t).Attrs) {
		t.Errorf("%q %q %q", names, between, l)
	}
	if after := filter.Text(filter.Filter{Kind: filter.And, Kids: kids}); after != before {
		t.Error(after)
	}
}
