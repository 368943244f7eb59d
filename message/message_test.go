package message_test

import (
	"bytes"
	"encoding/hex"
	"fmt"
	"math"
	"reflect"
	"runtime"
	"slices"
	"strings"
	"testing"

	"peerage/api"
	"peerage/attrs"
	"peerage/ber"
	"peerage/filter"
	"peerage/message"
)

// Message is a message; the tests have many of them.
type Message = message.Message

// short returns the beginning of what m is written as in Go.
func short(m Message) string {
	s := fmt.Sprintf("%#v", m)
	return s[:min(len(s), 2000)]
}

// wantPut holds Put and Right of m against the model, and reads back what Put returns (P16.4). It tells which error there is.
func wantPut(t *testing.T, m Message) api.Errno {
	t.Helper()
	want, wantError := modelPut(m)
	b, e := message.Put(m)
	if string(b) != want || e != wantError {
		t.Errorf("Put of %s: %d bytes %.200x %d instead of %d bytes %.200x %d", short(m), len(b), b, e, len(want), want, wantError)
	}
	if got := message.Right(m); got != (wantError == api.OK) {
		t.Errorf("Right of %s: %v", short(m), got)
	}
	if e != api.OK {
		return e
	}
	for _, after := range []string{"", "\x00", "\xff\xff", want} {
		back, n, e := message.Read([]byte(want + after))
		if !equal(back, m) || n != len(b) || e != api.OK {
			t.Errorf("Read of %.200x and %.200x: %s %d %d", b, after, short(back), n, e)
		}
	}
	if !message.Same(m, m) {
		t.Errorf("Same of %s", short(m))
	}
	return api.OK
}

// wantRead holds Read of b against the model. It tells which error there is.
func wantRead(t *testing.T, b string) api.Errno {
	t.Helper()
	want, wantSize, wantError := modelRead([]byte(b))
	m, n, e := message.Read([]byte(b))
	if !equal(m, want) || n != wantSize || e != wantError {
		t.Errorf("Read of %x: %#v %d %d instead of %#v %d %d", b, m, n, e, want, wantSize, wantError)
	}
	if e == api.OK && !message.Right(m) {
		t.Errorf("Read of %x: %#v is not valid", b, m)
	}
	return wantError
}

// wantForm holds that b is no message, for another reason than missing bytes.
func wantForm(t *testing.T, b string) {
	t.Helper()
	if e := wantRead(t, b); e != api.ErrForm {
		t.Errorf("Read of %x: the model has %d", b, e)
	}
	if m, n, e := message.Read([]byte(b)); !equal(m, Message{}) || n != 0 || e != api.ErrForm {
		t.Errorf("Read of %x: %#v %d %d", b, m, n, e)
	}
}

// parse returns the filter of a text.
func parse(s string) filter.Filter {
	f, e := filter.Parse(s)
	if e != api.OK {
		panic(s)
	}
	return f
}

// unspaced returns the bytes of digits with blanks between them.
func unspaced(s string) string {
	b, err := hex.DecodeString(strings.ReplaceAll(s, " ", ""))
	if err != nil {
		panic(err)
	}
	return string(b)
}

func TestConstants(t *testing.T) {
	kinds := []int{message.Bind, message.BindDone, message.Unbind, message.Search, message.Found, message.SearchDone, message.Modify, message.ModifyDone, message.Add, message.AddDone, message.Delete, message.DeleteDone, message.Rename, message.RenameDone, message.Compare, message.CompDone, message.Abandon}
	for i, k := range kinds {
		if i != k {
			t.Errorf("%d: %d", i, k)
		}
	}
	if api.MaxMessage != maxMessage {
		t.Error(api.MaxMessage)
	}
}

// samples returns messages of all kinds with their bytes.
func samples() map[string]Message {
	return map[string]Message{
		"30 05 020101 4200":                                                       {Id: 1, Kind: message.Unbind},
		"30 05 020100 4200":                                                       {Kind: message.Unbind},
		"30 08 0204 7fffffff 4200":                                                {Id: maxNumber, Kind: message.Unbind},
		"30 06 0202 0080 4200":                                                    {Id: 128, Kind: message.Unbind},
		"30 08 020101 5003 00ffff":                                                {Id: 1, Kind: message.Abandon, Target: 65535},
		"30 06 020101 5001 00":                                                    {Id: 1, Kind: message.Abandon},
		"30 09 020101 5004 7fffffff":                                              {Id: 1, Kind: message.Abandon, Target: maxNumber},
		"30 0c 020100 6007 020103 0400 8000":                                      {Kind: message.Bind},
		"30 10 020102 600b 020103 0403 6f3d78 8001 70":                            {Id: 2, Kind: message.Bind, Name: "o=x", Secret: "p"},
		"30 05 020101 4a00":                                                       {Id: 1, Kind: message.Delete},
		"30 07 020101 4a02 00ff":                                                  {Id: 1, Kind: message.Delete, Name: "\x00\xff"},
		"30 0c 020101 6107 0a0100 0400 0400":                                      {Id: 1, Kind: message.BindDone},
		"30 0c 020101 6507 0a0104 0400 0400":                                      {Id: 1, Kind: message.SearchDone, Code: 4},
		"30 0d 020101 6708 0a017f 0401 6d 0400":                                   {Id: 1, Kind: message.ModifyDone, Code: 127, Matched: "m"},
		"30 0d 020101 6908 0a0144 0400 0401 74":                                   {Id: 1, Kind: message.AddDone, Code: 68, Text: "t"},
		"30 0f 020101 6b0a 0a0142 0401 6d 0402 7475":                              {Id: 1, Kind: message.DeleteDone, Code: 66, Matched: "m", Text: "tu"},
		"30 0c 020101 6d07 0a0101 0400 0400":                                      {Id: 1, Kind: message.RenameDone, Code: 1},
		"30 0c 020101 6f07 0a0106 0400 0400":                                      {Id: 1, Kind: message.CompDone, Code: 6},
		"30 0d 020101 6e08 0400 3004 0400 0400":                                   {Id: 1, Kind: message.Compare},
		"30 11 020101 6e0c 0401 6f 3007 0402 636e 0401 61":                        {Id: 1, Kind: message.Compare, Name: "o", Type: "cn", Value: "a"},
		"30 0c 020101 6c07 0400 0400 010100":                                      {Id: 1, Kind: message.Rename},
		"30 0e 020101 6c09 0401 61 0401 62 0101ff":                                {Id: 1, Kind: message.Rename, Name: "a", Level: "b", DropOld: true},
		"30 0e 020101 6c09 0400 0400 010100 8000":                                 {Id: 1, Kind: message.Rename, Move: true},
		"30 11 020101 6c0c 0401 61 0401 62 0101ff 8001 63":                        {Id: 1, Kind: message.Rename, Name: "a", Level: "b", DropOld: true, Move: true, Above: "c"},
		"30 09 020101 6804 0400 3000":                                             {Id: 1, Kind: message.Add},
		"30 09 020101 6404 0400 3000":                                             {Id: 1, Kind: message.Found},
		"30 09 020101 6604 0400 3000":                                             {Id: 1, Kind: message.Modify},
		"30 0f 020101 680a 0400 3006 3004 0400 3100":                              {Id: 1, Kind: message.Add, Attrs: []attrs.Attr{{}}},
		"30 14 020101 640f 0401 6f 300a 3008 0401 6f 3103 0401 78":                {Id: 1, Kind: message.Found, Name: "o", Attrs: []attrs.Attr{{Name: "o", Values: []string{"x"}}}},
		"30 1a 020101 6815 0400 3011 3008 0401 6f 3103 0401 78 3005 0401 70 3100": {Id: 1, Kind: message.Add, Attrs: []attrs.Attr{{Name: "o", Values: []string{"x"}}, {Name: "p"}}},
		"30 16 020101 6811 0400 300d 300b 0401 6f 3106 0401 79 0401 78":           {Id: 1, Kind: message.Add, Attrs: []attrs.Attr{{Name: "o", Values: []string{"y", "x"}}}},
		"30 14 020101 660f 0400 300b 3009 0a0100 3004 0400 3100":                  {Id: 1, Kind: message.Modify, Changes: []attrs.Change{{}}},
		"30 2b 020101 6626 0401 6f 3021 300f 0a0101 300a 0402 636e 3104 0400 0400 300e 0a0102 3009 0402 736e 3103 0401 61": {Id: 1, Kind: message.Modify, Name: "o", Changes: []attrs.Change{{Kind: 1, Type: "cn", Values: []string{"", ""}}, {Kind: 2, Type: "sn", Values: []string{"a"}}}},
		"30 1a 020101 6315 0400 0a0100 0a0100 020100 020100 010100 a000 3000":                                              {Id: 1, Kind: message.Search},
		"30 1c 020101 6317 0400 0a0101 0a0100 020100 020100 010100 8702 636e 3000":                                         {Id: 1, Kind: message.Search, Scope: 1, Filter: parse("(cn=*)")},
		"30 21 020101 631c 0400 0a0102 0a0100 020105 020100 010100 a307 0402 636e 0401 61 3000":                            {Id: 1, Kind: message.Search, Scope: 2, Most: 5, Filter: parse("(cn=a)")},
		"30 2a 020101 6325 0401 6f 0a0102 0a0100 0204 7fffffff 020100 0101ff a205 8703 312e32 3007 0402 636e 0401 2b":      {Id: 1, Kind: message.Search, Name: "o", Scope: 2, Most: maxNumber, TypesOnly: true, Filter: parse("(!(1.2=*))"), Wanted: []string{"cn", "+"}},
		"30 29 020101 6324 0400 0a0100 0a0100 020100 020100 010100 a40d 0402 636e 3007 8001 61 8202 6263 3002 0400":        {Id: 1, Kind: message.Search, Filter: parse("(cn=a*bc)"), Wanted: []string{""}},
	}
}

// P16.1, P16.2, P16.4: what is put and read of each kind.
func TestSamples(t *testing.T) {
	kinds := map[int]int{}
	for s, m := range samples() {
		b := unspaced(s)
		kinds[m.Kind]++
		if got, e := message.Put(m); string(got) != b || e != api.OK {
			t.Errorf("Put of %#v: %x %d instead of %x", m, got, e, b)
		}
		if got, n, e := message.Read([]byte(b)); !equal(got, m) || n != len(b) || e != api.OK {
			t.Errorf("Read of %x: %#v %d %d", b, got, n, e)
		}
		wantPut(t, m)
		wantRead(t, b)
	}
	if len(kinds) != 17 {
		t.Error(kinds)
	}
}

// P16.4: every proper prefix is ErrEnd.
func TestPrefixes(t *testing.T) {
	long := Message{Id: 1, Kind: message.Delete, Name: strings.Repeat("a", 300)}
	b, _ := message.Put(long)
	l := []string{string(b)}
	for s := range samples() {
		l = append(l, unspaced(s))
	}
	for _, s := range l {
		for n := range len(s) {
			if m, used, e := message.Read([]byte(s[:n])); !equal(m, Message{}) || used != 0 || e != api.ErrEnd {
				t.Errorf("Read of %x: %#v %d %d", s[:n], m, used, e)
			}
		}
	}
}

// full returns a message of no kind in which each field differs from zero.
func full() Message {
	return Message{
		Id: 5, Kind: -1, Name: "n", Secret: "s", Scope: 1, Most: 2, TypesOnly: true, Filter: parse("(cn=a)"), Wanted: []string{"w"},
		Attrs: []attrs.Attr{{Name: "a", Values: []string{"v"}}}, Changes: []attrs.Change{{Kind: 1, Type: "c", Values: []string{"v"}}},
		Level: "l", Above: "b", DropOld: true, Move: true, Type: "t", Value: "v", Target: 3, Code: 4, Matched: "m", Text: "x",
	}
}

// having returns a message of this kind that has just these fields of the full one.
func having(kind int, names ...string) Message {
	var m Message
	from, to := reflect.ValueOf(full()), reflect.ValueOf(&m).Elem()
	for _, name := range names {
		to.FieldByName(name).Set(from.FieldByName(name))
	}
	m.Kind = kind
	return m
}

// fieldNames returns the names of all fields.
func fieldNames() []string {
	var l []string
	for _, f := range reflect.VisibleFields(reflect.TypeFor[Message]()) {
		l = append(l, f.Name)
	}
	return l
}

// P16.1, P16.3: each field of each kind, whether the kind mentions it or not.
func TestFieldsOfKinds(t *testing.T) {
	if v := reflect.ValueOf(full()); v.NumField() != 21 || isZero(v) {
		t.Error(v.NumField())
	}
	for kind := message.Bind; kind <= message.Abandon; kind++ {
		all := mentioned(kind)
		for _, l := range [][]string{nil, {"Id"}, all} {
			if e := wantPut(t, having(kind, l...)); e != api.OK {
				t.Errorf("kind %d with %q: %d", kind, l, e)
			}
		}
		for _, name := range fieldNames() {
			want := api.OK
			if !slices.Contains(all, name) || name == "Above" {
				want = api.ErrArg
			}
			if e := wantPut(t, having(kind, name)); e != want {
				t.Errorf("kind %d with %s: %d", kind, name, e)
			}
			if name == "Above" && kind == message.Rename {
				continue
			}
			if e := wantPut(t, having(kind, append([]string{name}, all...)...)); e != want {
				t.Errorf("kind %d with all that it has and %s: %d", kind, name, e)
			}
		}
	}
}

// P16.1: lists and a filter without elements are zero, nil or not.
func TestEmptyLists(t *testing.T) {
	for kind := message.Bind; kind <= message.Abandon; kind++ {
		m := Message{Kind: kind, Filter: filter.Filter{Kids: []filter.Filter{}, Between: []string{}}, Wanted: []string{}, Attrs: []attrs.Attr{}, Changes: make([]attrs.Change, 0, 5)}
		if e := wantPut(t, m); e != api.OK {
			t.Errorf("kind %d: %d", kind, e)
		}
		if !message.Same(m, Message{Kind: kind}) || !message.Same(Message{Kind: kind}, m) {
			t.Errorf("Same of kind %d", kind)
		}
		for _, f := range []filter.Filter{{Kind: 1}, {Kind: -1}, {Type: "cn"}, {Value: "a"}, {First: "a"}, {Last: "a"}, {Between: []string{""}}, {Kids: []filter.Filter{{}}}} {
			wantPut(t, Message{Kind: kind, Filter: f})
		}
		wantPut(t, Message{Kind: kind, Wanted: []string{""}})
		wantPut(t, Message{Kind: kind, Attrs: []attrs.Attr{{}}})
		wantPut(t, Message{Kind: kind, Changes: []attrs.Change{{}}})
	}
}

// P16.1: the limits of numbers, and one beyond each.
func TestNumbers(t *testing.T) {
	numbers := []int{math.MinInt, math.MinInt32, -256, -129, -128, -3, -2, -1, 0, 1, 2, 3, 4, 16, 126, 127, 128, 129, 255, 256, 32767, 32768, 65535, 65536, 1<<23 - 1, 1 << 23, 1<<24 - 1, 1 << 24, 1<<31 - 2, 1<<31 - 1, 1 << 31, 1<<32 - 1, 1 << 32, 1<<32 + 1, 1 << 40, math.MaxInt}
	for _, n := range numbers {
		within := func(most int) api.Errno {
			if n < 0 || n > most {
				return api.ErrArg
			}
			return api.OK
		}
		for _, x := range []struct {
			m    Message
			most int
		}{
			{Message{Kind: n}, 16},
			{Message{Kind: message.Abandon, Target: n}, maxNumber},
			{Message{Kind: message.Search, Most: n}, maxNumber},
			{Message{Kind: message.Search, Scope: n}, 2},
			{Message{Kind: message.Modify, Changes: []attrs.Change{{Kind: n}}}, 2},
			{Message{Kind: message.Modify, Changes: []attrs.Change{{}, {Kind: n, Type: "cn"}, {Kind: 1}}}, 2},
		} {
			if e := wantPut(t, x.m); e != within(x.most) {
				t.Errorf("%#v: %d", x.m, e)
			}
		}
		for kind := message.Bind; kind <= message.Abandon; kind++ {
			if e := wantPut(t, Message{Kind: kind, Id: n}); e != within(maxNumber) {
				t.Errorf("kind %d with Id %d: %d", kind, n, e)
			}
			wantPut(t, Message{Kind: kind, Code: n})
			wantPut(t, Message{Kind: kind, Scope: n})
			wantPut(t, Message{Kind: kind, Most: n})
			wantPut(t, Message{Kind: kind, Target: n})
		}
		for _, kind := range results {
			if e := wantPut(t, Message{Kind: kind, Code: n}); e != within(127) {
				t.Errorf("kind %d with Code %d: %d", kind, n, e)
			}
		}
	}
	for code := range 128 {
		wantPut(t, Message{Kind: message.BindDone, Code: code})
	}
}

// nested returns f within so many Nots.
func nested(f filter.Filter, n int) filter.Filter {
	for range n {
		f = filter.Filter{Kind: filter.Not, Kids: []filter.Filter{f}}
	}
	return f
}

// P16.1, P16.2: a Search has a valid filter.
func TestFilters(t *testing.T) {
	wide := func(n int) filter.Filter {
		return filter.Filter{Kind: filter.Or, Kids: slices.Repeat([]filter.Filter{parse("(cn=a)")}, n)}
	}
	for _, x := range []struct {
		want api.Errno
		f    filter.Filter
	}{
		{api.OK, parse("(&)")}, {api.OK, parse("(|(cn=a)(!(sn>=b))(&(x<=1)(y~=2)(z=*)))")}, {api.OK, parse("(cn=a*b*c)")}, {api.OK, parse("(cn=*b*)")},
		{api.OK, nested(parse("(cn=*a*)"), 9)}, {api.ErrArg, nested(parse("(cn=*a*)"), 10)}, {api.OK, nested(parse("(&)"), 9)}, {api.ErrArg, nested(parse("(&)"), 10)},
		{api.OK, wide(63)}, {api.ErrArg, wide(64)},
		{api.ErrArg, filter.Filter{Kind: filter.Not}}, {api.ErrArg, filter.Filter{Kind: filter.Equal}}, {api.ErrArg, filter.Filter{Kind: filter.Present, Type: "CN"}}, {api.ErrArg, filter.Filter{Kind: 9}}, {api.ErrArg, filter.Filter{Kind: -1}}, {api.ErrArg, filter.Filter{Type: "cn"}}, {api.ErrArg, filter.Filter{Kind: filter.Sought, Type: "cn"}},
	} {
		if e := wantPut(t, Message{Id: 1, Kind: message.Search, Filter: x.f}); e != x.want {
			t.Errorf("%#v: %d", x.f, e)
		}
	}
	// A filter may contain itself.
	loop := filter.Filter{Kind: filter.Not, Kids: make([]filter.Filter, 1)}
	loop.Kids[0] = loop
	for kind := -1; kind <= 17; kind++ {
		m := Message{Kind: kind, Filter: loop}
		if b, e := message.Put(m); len(b) > 0 || e != api.ErrArg || message.Right(m) || !message.Same(m, m) || message.Same(m, Message{Kind: kind}) {
			t.Errorf("kind %d: %x %d", kind, b, e)
		}
	}
}

// fillers returns functions that return valid messages with a string of the size that they are passed.
func fillers() map[string]func(s string) Message {
	return map[string]func(s string) Message{
		"Delete":      func(s string) Message { return Message{Id: 1, Kind: message.Delete, Name: s} },
		"Name":        func(s string) Message { return Message{Kind: message.Bind, Name: s} },
		"Secret":      func(s string) Message { return Message{Kind: message.Bind, Name: "n", Secret: s} },
		"Search":      func(s string) Message { return Message{Kind: message.Search, Name: s} },
		"Wanted":      func(s string) Message { return Message{Kind: message.Search, Wanted: []string{s}} },
		"last Wanted": func(s string) Message { return Message{Kind: message.Search, Wanted: []string{"", "cn", s}} },
		"Equal": func(s string) Message {
			return Message{Kind: message.Search, Filter: filter.Filter{Kind: filter.Equal, Type: "c", Value: s}}
		},
		"First": func(s string) Message {
			return Message{Kind: message.Search, Filter: filter.Filter{Kind: filter.Sought, Type: "c", First: s}}
		},
		"Between": func(s string) Message {
			return Message{Kind: message.Search, Filter: filter.Filter{Kind: filter.Sought, Type: "c", Between: []string{"a", s}}}
		},
		"Last": func(s string) Message {
			return Message{Kind: message.Search, Wanted: []string{"", ""}, Filter: nested(filter.Filter{Kind: filter.Sought, Type: "c", Between: []string{"a"}, Last: s}, 9)}
		},
		"Filter": func(s string) Message {
			kids := slices.Repeat([]filter.Filter{{}}, 62)
			return Message{Kind: message.Search, Filter: filter.Filter{Kids: append(kids, filter.Filter{Kind: filter.Least, Type: "c", Value: s})}}
		},
		"change's Type": func(s string) Message {
			return Message{Kind: message.Modify, Changes: []attrs.Change{{}, {Type: s}}}
		},
		"change's Values": func(s string) Message {
			return Message{Kind: message.Modify, Changes: []attrs.Change{{Values: []string{"", s}}, {Type: "a"}}}
		},
		"attribute's Name": func(s string) Message { return Message{Kind: message.Add, Attrs: []attrs.Attr{{}, {Name: s}}} },
		"attribute's Values": func(s string) Message {
			return Message{Kind: message.Found, Attrs: []attrs.Attr{{Values: []string{"", s}}, {}}}
		},
		"Level":   func(s string) Message { return Message{Kind: message.Rename, Level: s} },
		"Above":   func(s string) Message { return Message{Kind: message.Rename, Move: true, Above: s} },
		"Type":    func(s string) Message { return Message{Kind: message.Compare, Type: s} },
		"Value":   func(s string) Message { return Message{Kind: message.Compare, Value: s} },
		"Matched": func(s string) Message { return Message{Kind: message.AddDone, Matched: s} },
		"Text":    func(s string) Message { return Message{Kind: message.CompDone, Matched: "m", Text: s} },
	}
}

// P16.1, P16.4: messages of the greatest size and of more bytes, in which an invalid field is ErrArg nevertheless.
func TestBig(t *testing.T) {
	for name, fill := range fillers() {
		sized := func(n int) Message { return fill(strings.Repeat("v", n)) }
		b, _ := message.Put(sized(16000))
		most := 16000 + maxMessage - len(b)
		for n, want := range map[int]api.Errno{most - 1: api.OK, most: api.OK, most + 1: api.ErrBig, most + 2: api.ErrBig, most + 5: api.ErrBig, maxMessage - 1: api.ErrBig, maxMessage: api.ErrBig, 3 * maxMessage: api.ErrBig, 1 << 20: api.ErrBig} {
			m := sized(n)
			if e := wantPut(t, m); e != want {
				t.Errorf("%s of %d bytes: %d", name, n, e)
			}
			if n == most {
				if b, _ := message.Put(m); len(b) != maxMessage {
					t.Errorf("%s: %d bytes", name, len(b))
				}
			}
			m.Id = -1
			if e := wantPut(t, m); e != api.ErrArg {
				t.Errorf("%s of %d bytes without a valid Id: %d", name, n, e)
			}
		}
	}
}

// P16.1: lists of small things, as many as fit in a message and one more.
func TestLongLists(t *testing.T) {
	for name, x := range map[string]struct {
		size int // of the element of each thing
		make func(n int) Message
	}{
		"Wanted":  {2, func(n int) Message { return Message{Kind: message.Search, Wanted: make([]string, n)} }},
		"Attrs":   {6, func(n int) Message { return Message{Kind: message.Add, Attrs: make([]attrs.Attr, n)} }},
		"Changes": {11, func(n int) Message { return Message{Kind: message.Modify, Changes: make([]attrs.Change, n)} }},
		"Values": {2, func(n int) Message {
			return Message{Kind: message.Found, Attrs: []attrs.Attr{{Values: make([]string, n)}}}
		}},
		"change's Values": {2, func(n int) Message {
			return Message{Kind: message.Modify, Changes: []attrs.Change{{Values: make([]string, n)}}}
		}},
		"Between": {3, func(n int) Message {
			return Message{Kind: message.Search, Filter: filter.Filter{Kind: filter.Sought, Type: "c", Between: slices.Repeat([]string{"b"}, n)}}
		}},
	} {
		some := maxMessage / x.size * 9 / 10
		b, _ := message.Put(x.make(some))
		most := some + (maxMessage-len(b))/x.size
		for _, n := range []int{most - 1, most} {
			if e := wantPut(t, x.make(n)); e != api.OK {
				t.Errorf("%s, %d: %d", name, n, e)
			}
		}
		for _, n := range []int{most + 1, most + 2, 2 * most, 1 << 20} {
			if b, e := message.Put(x.make(n)); len(b) > 0 || e != api.ErrBig || message.Right(x.make(n)) {
				t.Errorf("%s, %d: %d", name, n, e)
			}
		}
	}
}

// P16.1: no element is made of what is too much for a message, even if it needs little memory because its parts are shared.
func TestSharedLists(t *testing.T) {
	many, empty := slices.Repeat([]string{"v"}, 1<<20), make([]string, 1<<20)
	long := strings.Repeat("v", 1<<24)
	kids := func(f filter.Filter) filter.Filter { return filter.Filter{Kids: slices.Repeat([]filter.Filter{f}, 63)} }
	for name, m := range map[string]Message{
		"Wanted":        {Kind: message.Search, Wanted: slices.Repeat([]string{long}, 100)},
		"Attrs":         {Kind: message.Add, Attrs: slices.Repeat([]attrs.Attr{{Values: many}}, 100)},
		"empty values":  {Kind: message.Found, Attrs: slices.Repeat([]attrs.Attr{{Values: empty}}, 100)},
		"empty changes": {Kind: message.Modify, Changes: slices.Repeat([]attrs.Change{{Values: empty}}, 100)},
		"names":         {Kind: message.Add, Attrs: slices.Repeat([]attrs.Attr{{Name: long}}, 100)},
		"Changes":       {Kind: message.Modify, Changes: slices.Repeat([]attrs.Change{{Values: many}}, 100)},
		"types":         {Kind: message.Modify, Changes: slices.Repeat([]attrs.Change{{Type: long}}, 100)},
		"Between":       {Kind: message.Search, Filter: kids(filter.Filter{Kind: filter.Sought, Type: "cn", Between: many})},
		"long Between":  {Kind: message.Search, Filter: kids(filter.Filter{Kind: filter.Sought, Type: "cn", Between: []string{long}})},
		"Value":         {Kind: message.Search, Filter: kids(filter.Filter{Kind: filter.Like, Type: "cn", Value: long})},
		"First":         {Kind: message.Search, Filter: kids(filter.Filter{Kind: filter.Sought, Type: "cn", First: long})},
		"Last":          {Kind: message.Search, Filter: kids(filter.Filter{Kind: filter.Sought, Type: "cn", Last: long})},
	} {
		var before, after runtime.MemStats
		runtime.ReadMemStats(&before)
		b, e := message.Put(m)
		right, same := message.Right(m), message.Same(m, m)
		runtime.ReadMemStats(&after)
		if len(b) > 0 || e != api.ErrBig || right || !same {
			t.Errorf("%s: %x %d %v %v", name, b, e, right, same)
		}
		if n := after.TotalAlloc - before.TotalAlloc; n > 1<<22 {
			t.Errorf("%s: %d bytes of memory", name, n)
		}
	}
}

// P16.2: elements that differ from those that Put returns.
func TestReadOtherElements(t *testing.T) {
	search := func(scope, aliases, most, time, only, f string) string {
		return block(0x30, "\x02\x01\x01", block(0x63, "\x04\x00", scope, aliases, most, time, only, f, "\x30\x00"))
	}
	plain := []string{"\x0a\x01\x00", "\x0a\x01\x00", "\x02\x01\x00", "\x02\x01\x00", "\x01\x01\x00", "\xa0\x00"}
	with := func(i int, s string) string {
		l := slices.Clone(plain)
		l[i] = s
		return search(l[0], l[1], l[2], l[3], l[4], l[5])
	}
	want := func(b string, m Message) {
		t.Helper()
		if got, n, e := message.Read([]byte(b)); !equal(got, m) || n != len(b) || e != api.OK {
			t.Errorf("Read of %x: %#v %d %d instead of %#v", b, got, n, e, m)
		}
		wantRead(t, b)
	}
	for c := range 256 {
		s := string([]byte{byte(c)})
		bind := block(0x30, "\x02\x01\x01", block(0x60, "\x02\x01"+s, "\x04\x01n", "\x80\x01s"))
		if c >= 1 && c <= 127 {
			want(bind, Message{Id: 1, Kind: message.Bind, Name: "n", Secret: "s"})
		} else {
			wantForm(t, bind)
		}
		if c <= 3 {
			want(with(1, "\x0a\x01"+s), Message{Id: 1, Kind: message.Search})
		} else {
			wantForm(t, with(1, "\x0a\x01"+s))
		}
		if c < 128 {
			want(with(3, "\x02\x01"+s), Message{Id: 1, Kind: message.Search})
		} else {
			wantForm(t, with(3, "\x02\x01"+s))
		}
		want(with(4, "\x01\x01"+s), Message{Id: 1, Kind: message.Search, TypesOnly: c != 0})
		rename := block(0x6c, "\x04\x01n", "\x04\x01l", "\x01\x01"+s)
		want(block(0x30, "\x02\x01\x01", rename), Message{Id: 1, Kind: message.Rename, Name: "n", Level: "l", DropOld: c != 0})
	}
	for _, s := range []string{"\x00\x80", "\x7f\xff\xff\xff", "\x01\x00"} {
		want(with(3, block(2, s)), Message{Id: 1, Kind: message.Search})
	}
	for _, s := range []string{"", "\x00\x01", "\xff\xff", "\xff", "\x00\x80\x00\x00\x00", "\x01\x00\x00\x00\x00", "\x00\x00\x00\x00\x00\x00\x00\x00\x01", "\x80\x00\x00\x00", "\x7f\xff\xff\xff\xff\xff\xff\xff\xff"} {
		wantForm(t, with(2, block(2, s)))
		wantForm(t, with(3, block(2, s)))
		wantForm(t, with(0, block(10, s)))
		wantForm(t, with(1, block(10, s)))
		wantForm(t, block(0x30, block(2, s), "\x42\x00"))
		wantForm(t, block(0x30, "\x02\x01\x01", block(0x50, s)))
		wantForm(t, block(0x30, "\x02\x01\x01", block(0x60, block(2, s), "\x04\x00", "\x80\x00")))
		wantForm(t, block(0x30, "\x02\x01\x01", block(0x61, block(10, s), "\x04\x00", "\x04\x00")))
		wantForm(t, block(0x30, "\x02\x01\x01", block(0x66, "\x04\x00", block(0x30, block(0x30, block(10, s), "\x30\x04\x04\x00\x31\x00")))))
	}
	for _, s := range []string{"", "\x00\x00", "\xff\xff", "\x00\xff"} {
		wantForm(t, with(4, block(1, s)))
	}
	// A Type in the filter.
	want(with(5, "\x87\x08CN;b;B;a"), Message{Id: 1, Kind: message.Search, Filter: parse("(cn;a;b=*)")})
	want(with(5, "\xa2\x07\xa3\x05\x04\x01X\x04\x00"), Message{Id: 1, Kind: message.Search, Filter: parse("(!(x=))")})
	for _, s := range []string{"\x87\x00", "\x87\x021a", "\xa7\x02cn", "\xa2\x00", "\xa9\x00", "\x04\x00", "\x30\x00", "\x80\x00", "\xa3\x05\x04\x011\x04\x00", "\xa4\x06\x04\x02cn\x30\x00"} {
		wantForm(t, with(5, s))
	}
	deep, _ := ber.Put(filter.Put(nested(parse("(cn=a)"), 9)))
	want(with(5, string(deep)), Message{Id: 1, Kind: message.Search, Filter: nested(parse("(cn=a)"), 9)})
	wantForm(t, with(5, block(0xa2, string(deep))))
}

// P16.2: controls are ignored. Nothing else may follow the operation.
func TestControls(t *testing.T) {
	for s, m := range samples() {
		_, n, _ := ber.Parse([]byte(unspaced(s)))
		inner := unspaced(s)[2:n]
		for _, controls := range []string{"\xa0\x00", "\xa0\x02\x30\x00", "\xa0\x02\xa0\x00", "\xa0\x81\x02\x05\x00", block(0xa0, "\xa0\x00", block(4, strings.Repeat("c", 300)))} {
			b := block(0x30, inner, controls)
			if got, n, e := message.Read([]byte(b)); !equal(got, m) || n != len(b) || e != api.OK {
				t.Errorf("Read of %x: %#v %d %d", b, got, n, e)
			}
			wantRead(t, b)
			wantForm(t, block(0x30, inner, controls, controls))
			wantForm(t, block(0x30, controls, inner))
			wantForm(t, block(0x30, inner, controls, "\x80\x00"))
			wantForm(t, block(0x30, inner[:3], controls, inner[3:]))
		}
		for _, other := range []string{"\x80\x00", "\xa1\x00", "\x30\x00", "\x60\x00", "\x20\x00", "\xe0\x00", "\x04\x00", "\x00\x00", "\x42\x00", "\x80\x02\x30\x00", "\xa0\x02\x5f\x1f", "\xa0\x02\x04\x01"} {
			wantForm(t, block(0x30, inner, other))
		}
	}
}

// lengths returns the bytes of x with a length of so many bytes for each element.
func lengths(x ber.Element, size int) string {
	first, _ := ber.Put(ber.Element{Tag: x.Tag})
	content := string(x.Bytes)
	for _, kid := range x.Kids {
		content += lengths(kid, size)
	}
	s := string([]byte{0x80 + byte(size)})
	for i := size - 1; i >= 0; i-- {
		s += string([]byte{byte(len(content) >> (8 * i))})
	}
	return string(first[:len(first)-1]) + s + content
}

// P16.2: lengths with leading zero bytes are those of the same element.
func TestLongLengths(t *testing.T) {
	for s, m := range samples() {
		x, _, _ := ber.Parse([]byte(unspaced(s)))
		for size := 2; size <= 4; size++ {
			b := lengths(x, size)
			if got, n, e := message.Read([]byte(b + "x")); !equal(got, m) || n != len(b) || e != api.OK {
				t.Errorf("Read of %x: %#v %d %d", b, got, n, e)
			}
			wantRead(t, b)
		}
	}
}

// P16.2: the errors of ber.Parse are returned as they are, and before ErrForm.
func TestParseErrors(t *testing.T) {
	deep := "\x04\x00"
	for range 23 {
		deep = block(0x30, deep)
	}
	for s, want := range map[string]api.Errno{
		"": api.ErrEnd, "\x30": api.ErrEnd, "\x1f": api.ErrEnd, "\x30\x01": api.ErrEnd, "\x04\x02x": api.ErrEnd, "\x30\x82\x40": api.ErrEnd,
		"\x30\x80": api.ErrForm, "\x30\xff": api.ErrForm, "\x1f\x01\x00": api.ErrForm, "\x30\x01\x02": api.ErrForm, "\x30\x02\x02\x01": api.ErrForm, "\x30\x00": api.ErrForm, "\x04\x00": api.ErrForm, "\x42\x00": api.ErrForm,
		"\x30\x82\x40\x00": api.ErrBig, "\x04\x83\x01\x00\x00": api.ErrBig, "\x30\x85": api.ErrBig, "\x30\x84\xff\xff\xff\xff": api.ErrBig,
		deep: api.ErrForm, block(0x30, deep): api.ErrDeep, block(0x30, "\x02\x01\x01", "\x42\x00", block(0xa0, deep)): api.ErrDeep,
	} {
		if m, n, e := message.Read([]byte(s)); !equal(m, Message{}) || n != 0 || e != want {
			t.Errorf("Read of %x: %#v %d %d instead of %d", s, m, n, e, want)
		}
		wantRead(t, s)
	}
	// Controls of the greatest depth.
	controls := block(0xa0, deep[4:])
	wantRead(t, block(0x30, "\x02\x01\x01", "\x42\x00", controls))
}

// P16.2: parts that are missing, too many, in another order, or of another identifier.
func TestReadInvalid(t *testing.T) {
	for s := range samples() {
		x, _, _ := ber.Parse([]byte(unspaced(s)))
		op := x.Kids[1]
		whole := func(op ber.Element) string {
			y := x
			y.Kids = []ber.Element{x.Kids[0], op}
			b, _ := ber.Put(y)
			return string(b)
		}
		for number := range 40 {
			for class := range 4 {
				for _, made := range []bool{false, true} {
					y := op
					y.Tag.Class, y.Tag.Number, y.Tag.Made = class, number, made
					if made != op.Tag.Made {
						y.Bytes, y.Kids = nil, nil
					}
					wantRead(t, whole(y))
					z := x
					z.Tag = y.Tag
					if made {
						b, _ := ber.Put(z)
						wantRead(t, string(b))
					}
				}
			}
		}
		for i := range op.Kids {
			y := op
			y.Kids = slices.Delete(slices.Clone(op.Kids), i, i+1)
			if e := wantRead(t, whole(y)); e == api.OK && (op.Tag.Number != message.Rename || i != 3) {
				t.Errorf("%s without part %d", s, i)
			}
			y.Kids = slices.Insert(slices.Clone(op.Kids), i, op.Kids[i])
			wantForm(t, whole(y))
			if j := (i + 1) % len(op.Kids); op.Kids[i].Tag != op.Kids[j].Tag {
				y.Kids = slices.Clone(op.Kids)
				y.Kids[i], y.Kids[j] = y.Kids[j], y.Kids[i]
				wantForm(t, whole(y))
			}
		}
		for _, l := range [][]ber.Element{nil, {op}, {x.Kids[0]}, {op, x.Kids[0]}, {x.Kids[0], x.Kids[0]}, {op, op}, {x.Kids[0], x.Kids[0], op}, {x.Kids[0], op, op}} {
			y := x
			y.Kids = l
			b, _ := ber.Put(y)
			wantForm(t, string(b))
		}
	}
	for _, s := range []string{"\x42\x01\x00", "\x42\x02\x04\x00", "\x62\x00", "\x50\x00", "\x70\x03\x02\x01\x01", "\x6a\x02\x04\x00", "\x60\x07\x02\x01\x03\x04\x00\xa0\x00", "\x60\x07\x02\x01\x03\x24\x00\x80\x00", "\x60\x07\x0a\x01\x03\x04\x00\x80\x00", "\x60\x07\x02\x01\x03\x04\x00\x81\x00", "\x60\x07\x02\x01\x03\x04\x00\x04\x00", "\x61\x07\x02\x01\x00\x04\x00\x04\x00", "\x61\x09\x0a\x01\x00\x04\x00\x04\x00\xa3\x00", "\x6c\x09\x04\x00\x04\x00\x01\x01\x00\x04\x00", "\x6c\x09\x04\x00\x04\x00\x01\x01\x00\xa0\x00", "\x68\x04\x04\x00\x31\x00", "\x68\x0a\x04\x00\x30\x06\x30\x04\x04\x00\x30\x00", "\x68\x08\x04\x00\x30\x04\x30\x02\x04\x00", "\x66\x0f\x04\x00\x30\x0b\x30\x09\x02\x01\x00\x30\x04\x04\x00\x31\x00"} {
		wantForm(t, block(0x30, "\x02\x01\x01", s))
	}
}

// P16.3: Same tells of each field, and of each thing in each list, whether it differs.
func TestSame(t *testing.T) {
	a := full()
	if !message.Same(a, full()) || !message.Same(Message{}, Message{}) {
		t.Error("equal ones differ")
	}
	for _, name := range fieldNames() {
		b := full()
		field := reflect.ValueOf(&b).Elem().FieldByName(name)
		var others []any
		switch field.Interface().(type) {
		case int:
			others = []any{0, -2, 6, 1 << 40}
		case string:
			others = []any{"", "N", "\x00", field.String() + "\x00"}
		case bool:
			others = []any{false}
		case []string:
			others = []any{[]string(nil), []string{""}, []string{"W"}, []string{"w", "w"}}
		case []attrs.Attr:
			others = []any{[]attrs.Attr(nil), []attrs.Attr{{Name: "a"}}, []attrs.Attr{{Name: "A", Values: []string{"v"}}}, []attrs.Attr{{Name: "a", Values: []string{"V"}}}, []attrs.Attr{{Name: "a", Values: []string{"v", "v"}}}, append(a.Attrs, attrs.Attr{})}
		case []attrs.Change:
			others = []any{[]attrs.Change(nil), []attrs.Change{{Kind: 0, Type: "c", Values: []string{"v"}}}, []attrs.Change{{Kind: 1, Type: "C", Values: []string{"v"}}}, []attrs.Change{{Kind: 1, Type: "c"}}, []attrs.Change{{Kind: 1, Type: "c", Values: []string{"V"}}}, []attrs.Change{{Kind: 1, Type: "c", Values: []string{"v", ""}}}, append(a.Changes, a.Changes[0])}
		case filter.Filter:
			others = []any{filter.Filter{}, parse("(cn=b)"), parse("(sn=a)"), parse("(cn>=a)"), nested(parse("(cn=a)"), 1)}
		}
		if len(others) == 0 {
			t.Errorf("%s: nothing to compare with", name)
		}
		for _, other := range others {
			field.Set(reflect.ValueOf(other))
			if message.Same(a, b) || message.Same(b, a) || !message.Same(b, b) {
				t.Errorf("%s %#v", name, other)
			}
		}
	}
}

// P16.3.
func TestReply(t *testing.T) {
	replies := map[int]int{0: 1, 3: 5, 6: 7, 8: 9, 10: 11, 12: 13, 14: 15}
	for kind := -300; kind <= 300; kind++ {
		want, ok := replies[kind]
		if !ok {
			want = -1
		}
		if got := message.Reply(kind); got != want {
			t.Errorf("Reply of %d: %d", kind, got)
		}
	}
	for _, kind := range []int{math.MinInt, math.MinInt32, math.MaxInt32, 1 << 32, 1<<32 + 3, 1<<32 + 6, math.MaxInt} {
		if got := message.Reply(kind); got != -1 {
			t.Errorf("Reply of %d: %d", kind, got)
		}
	}
}

// Rule 4: results are new memory, and arguments stay as they are.
func TestMemory(t *testing.T) {
	for s, m := range samples() {
		in := []byte(unspaced(s) + "rest")
		in = in[: len(in)-4 : len(in)]
		read, _, _ := message.Read(in)
		if string(in[:cap(in)]) != unspaced(s)+"rest" {
			t.Errorf("Read changed %x", in)
		}
		for i := range in {
			in[i] = 0xff
		}
		if !equal(read, m) {
			t.Errorf("%s: the message has memory of its bytes", s)
		}
		other, _, _ := message.Read([]byte(unspaced(s)))
		scribble(other.Wanted)
		for i := range other.Attrs {
			scribble(other.Attrs[i].Values)
		}
		for i := range other.Changes {
			scribble(other.Changes[i].Values)
		}
		if len(other.Attrs) == 2 && len(other.Attrs[1].Values) != 0 {
			t.Error(other.Attrs)
		}
		one, _ := message.Put(m)
		two, _ := message.Put(m)
		keep := bytes.Clone(two)
		for i := range one[:cap(one)] {
			one[:cap(one)][i] = 0xff
		}
		if !bytes.Equal(two, keep) || !equal(m, samples()[s]) {
			t.Errorf("%s: results share memory", s)
		}
	}
	backing := []string{"a", "b", "keep"}
	m := Message{Kind: message.Search, Wanted: backing[:1], Filter: filter.Filter{Kind: filter.Sought, Type: "cn", Between: backing[:2]}}
	if e := wantPut(t, m); e != api.OK || !slices.Equal(backing, []string{"a", "b", "keep"}) {
		t.Error(backing, e)
	}
}

// scribble overwrites a list and its spare capacity.
func scribble(l []string) {
	l = l[:cap(l)]
	for i := range l {
		l[i] = "scribble"
	}
}

// P16.2: lists of a message that is read do not share memory, spare capacity included.
func TestListsApart(t *testing.T) {
	m := Message{Id: 1, Kind: message.Add}
	c := Message{Id: 1, Kind: message.Modify}
	for i := range 9 {
		l := slices.Repeat([]string{"v"}, i)
		m.Attrs = append(m.Attrs, attrs.Attr{Name: "a", Values: l})
		c.Changes = append(c.Changes, attrs.Change{Type: "a", Values: l})
	}
	for _, x := range []Message{m, c} {
		b, _ := message.Put(x)
		for i := range 9 {
			got, _, _ := message.Read(b)
			l := func(i int) *[]string {
				if x.Kind == message.Add {
					return &got.Attrs[i].Values
				}
				return &got.Changes[i].Values
			}
			scribble(*l(i))
			*l(i) = slices.Repeat([]string{"v"}, i)
			if !equal(got, x) {
				t.Errorf("list %d shares memory with another one: %#v", i, got)
			}
		}
	}
}
