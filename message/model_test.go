package message_test

import (
	"encoding/hex"
	"reflect"
	"regexp"
	"slices"
	"strconv"
	"strings"

	"peerage/api"
	"peerage/attrs"
	"peerage/ber"
	"peerage/filter"
	"peerage/message"
	"peerage/tag"
)

// maxMessage is how many bytes a message may have; TestConstants holds api's against it.
const maxMessage = 16384

// maxNumber is the greatest number of a message.
const maxNumber = 1<<31 - 1

// results are the kinds with a Code.
var results = []int{message.BindDone, message.SearchDone, message.ModifyDone, message.AddDone, message.DeleteDone, message.RenameDone, message.CompDone}

// mentioned returns the fields that the chapter mentions for a kind, or nothing if there is no such kind.
func mentioned(kind int) []string {
	own := map[int]string{
		message.Bind: "Name Secret", message.Unbind: "", message.Abandon: "Target", message.Delete: "Name",
		message.Search: "Name Scope Most TypesOnly Filter Wanted", message.Modify: "Name Changes", message.Add: "Name Attrs", message.Found: "Name Attrs",
		message.Rename: "Name Level DropOld Move Above", message.Compare: "Name Type Value",
	}
	for _, k := range results {
		own[k] = "Code Matched Text"
	}
	if s, ok := own[kind]; ok {
		return append(strings.Fields(s), "Id", "Kind")
	}
	return nil
}

// isZero tells whether v is zero, or a list without elements, or a struct of such things.
func isZero(v reflect.Value) bool {
	switch v.Kind() {
	case reflect.Slice:
		return v.Len() == 0
	case reflect.Struct:
		for i := range v.NumField() {
			if !isZero(v.Field(i)) {
				return false
			}
		}
		return true
	}
	return v.IsZero()
}

// modelValid tells whether m is valid but for its size.
func modelValid(m message.Message) bool {
	may := mentioned(m.Kind)
	v := reflect.ValueOf(m)
	for i := range v.NumField() {
		if !slices.Contains(may, v.Type().Field(i).Name) && !isZero(v.Field(i)) {
			return false
		}
	}
	for _, c := range m.Changes {
		if c.Kind != 0 && c.Kind != 1 && c.Kind != 2 {
			return false
		}
	}
	switch {
	case may == nil, m.Id < 0, m.Id > maxNumber, m.Most < 0, m.Most > maxNumber, m.Target < 0, m.Target > maxNumber:
		return false
	case m.Scope < 0, m.Scope > 2, m.Code < 0, m.Code > 127, !m.Move && m.Above != "":
		return false
	}
	return m.Kind != message.Search || filter.Right(m.Filter)
}

// block returns an element: its first byte, the number of the bytes of its content, and these.
func block(first byte, content ...string) string {
	all := strings.Join(content, "")
	n := len(all)
	switch {
	case n < 1<<7:
		return string([]byte{first, byte(n)}) + all
	case n < 1<<8:
		return string([]byte{first, 0x81, byte(n)}) + all
	case n < 1<<16:
		return string([]byte{first, 0x82, byte(n >> 8), byte(n)}) + all
	}
	return string([]byte{first, 0x83, byte(n >> 16), byte(n >> 8), byte(n)}) + all
}

// digits returns the bytes of a number that is not negative.
func digits(n int) string {
	s := ""
	for {
		s = string([]byte{byte(n)}) + s
		if n < 128 {
			return s
		}
		// The first bit is the sign: a byte that has it set needs a zero before it.
		n >>= 8
	}
}

// modelPut is P16.1.
func modelPut(m message.Message) (string, api.Errno) {
	if !modelValid(m) {
		return "", api.ErrArg
	}
	b := block(0x30, block(2, digits(m.Id)), modelOperation(m))
	if len(b) > maxMessage {
		return "", api.ErrBig
	}
	return b, api.OK
}

// strs returns the elements of strings.
func strs(l []string) string {
	s := ""
	for _, x := range l {
		s += block(4, x)
	}
	return s
}

// flag returns the element of a bool.
func flag(is bool) string {
	if is {
		return "\x01\x01\xff"
	}
	return "\x01\x01\x00"
}

// filterBytes returns the bytes of a valid filter, or too many ones for a message if these are.
func filterBytes(f filter.Filter) string {
	b, e := ber.Put(filter.Put(f))
	if e != api.OK {
		return strings.Repeat("f", maxMessage)
	}
	return string(b)
}

// modelOperation returns the bytes of the operation of m.
func modelOperation(m message.Message) string {
	first := byte(0x60 + m.Kind)
	name := block(4, m.Name)
	list := ""
	switch m.Kind {
	case message.Bind:
		return block(first, "\x02\x01\x03", name, block(0x80, m.Secret))
	case message.Unbind:
		return "\x42\x00"
	case message.Abandon:
		return block(0x50, digits(m.Target))
	case message.Delete:
		return block(0x4a, m.Name)
	case message.Search:
		return block(first, name, block(10, digits(m.Scope)), "\x0a\x01\x00", block(2, digits(m.Most)), "\x02\x01\x00", flag(m.TypesOnly), filterBytes(m.Filter), block(0x30, strs(m.Wanted)))
	case message.Modify:
		for _, c := range m.Changes {
			list += block(0x30, block(10, digits(c.Kind)), block(0x30, block(4, c.Type), block(0x31, strs(c.Values))))
		}
		return block(first, name, block(0x30, list))
	case message.Add, message.Found:
		for _, a := range m.Attrs {
			list += block(0x30, block(4, a.Name), block(0x31, strs(a.Values)))
		}
		return block(first, name, block(0x30, list))
	case message.Rename:
		if m.Move {
			list = block(0x80, m.Above)
		}
		return block(first, name, block(4, m.Level), flag(m.DropOld), list)
	case message.Compare:
		return block(first, name, block(0x30, block(4, m.Type), block(4, m.Value)))
	}
	return block(first, block(10, digits(m.Code)), block(4, m.Matched), block(4, m.Text))
}

// written returns an element as text: its class and number, and = with the digits of its bytes and a semicolon, or its kids in parentheses.
func written(x ber.Element) string {
	s := "UACP"[x.Tag.Class:x.Tag.Class+1] + strconv.Itoa(x.Tag.Number)
	if !x.Tag.Made {
		return s + "=" + hex.EncodeToString(x.Bytes) + ";"
	}
	return s + "(" + writtenAll(x.Kids) + ")"
}

// writtenAll returns elements as text.
func writtenAll(l []ber.Element) string {
	var parts []string
	for _, x := range l {
		parts = append(parts, written(x))
	}
	return strings.Join(parts, "")
}

// plainFilter returns x with a mark in place of the seventh kid of a Search, if that is a filter; and this filter.
func plainFilter(x ber.Element) (ber.Element, filter.Filter) {
	if len(x.Kids) < 2 || len(x.Kids[1].Kids) < 7 || x.Kids[1].Tag.Number != message.Search {
		return x, filter.Filter{}
	}
	f, e := filter.Read(x.Kids[1].Kids[6])
	if e != api.OK {
		return x, filter.Filter{}
	}
	x.Kids = slices.Clone(x.Kids)
	x.Kids[1].Kids = slices.Clone(x.Kids[1].Kids)
	x.Kids[1].Kids[6] = ber.Element{Tag: tag.Tag{Class: tag.Private, Number: 99}}
	return x, f
}

// The patterns of the parts of messages, as written. Those of the lists have no groups of their own.
const (
	hx    = `[0-9a-f]`
	whole = `U2=(` + naked + `);`
	naked = `[0-7]` + hx + `|(?:00[89a-f]` + hx + `|(?:0[1-9a-f]|[1-7]` + hx + `)` + hx + hx + `)(?:` + hx + hx + `){0,2}`
	text  = `U4=(` + hx + `*);`
	few   = `U10=(0[0-2]);`
	truth = `U1=(` + hx + hx + `);`
	set   = `U17\((?:U4=` + hx + `*;)*\)`
	attr  = `U16\(U4=` + hx + `*;` + set + `\)`
	mod   = `U16\(U10=0[0-2];` + attr + `\)`
)

// operations returns the patterns of the operations, each with the fields that are its groups.
func operations() map[int][2]string {
	l := map[int][2]string{
		message.Bind:    {`A0\(U2=(?:0[1-9a-f]|[1-7]` + hx + `);` + text + `C0=(` + hx + `*);\)`, "Name Secret"},
		message.Unbind:  {`A2=;`, ""},
		message.Search:  {`A3\(` + text + few + `U10=0[0-3];` + whole + `U2=(?:` + naked + `);` + truth + `P99=;U16\(((?:U4=` + hx + `*;)*)\)\)`, "Name Scope Most TypesOnly Wanted"},
		message.Modify:  {`A6\(` + text + `U16\(((?:` + mod + `)*)\)\)`, "Name Changes"},
		message.Delete:  {`A10=(` + hx + `*);`, "Name"},
		message.Rename:  {`A12\(` + text + text + truth + `(?:C0=(` + hx + `*)(;))?\)`, "Name Level DropOld Above Move"},
		message.Compare: {`A14\(` + text + `U16\(` + text + text + `\)\)`, "Name Type Value"},
		message.Abandon: {`A16=(` + naked + `);`, "Target"},
	}
	for _, k := range []int{message.Add, message.Found} {
		l[k] = [2]string{`A` + strconv.Itoa(k) + `\(` + text + `U16\(((?:` + attr + `)*)\)\)`, "Name Attrs"}
	}
	for _, k := range results {
		l[k] = [2]string{`A` + strconv.Itoa(k) + `\(U10=([0-7]` + hx + `);` + text + text + `\)`, "Code Matched Text"}
	}
	return l
}

// compiled is operations with the pattern of the whole message around each.
var compiled = func() map[int]*regexp.Regexp {
	l := map[int]*regexp.Regexp{}
	for k, x := range operations() {
		l[k] = regexp.MustCompile(`\AU16\(` + whole + x[0] + `(?:C0\(.*\))?\)\z`)
	}
	return l
}()

// The patterns that find the elements of lists.
var (
	eachText   = regexp.MustCompile(`U4=(` + hx + `*);`)
	eachAttr   = regexp.MustCompile(attr)
	eachChange = regexp.MustCompile(mod)
)

// unhex returns the bytes of digits.
func unhex(s string) string {
	b, err := hex.DecodeString(s)
	if err != nil {
		panic(err)
	}
	return string(b)
}

// texts returns all strings in s.
func texts(s string) []string {
	var l []string
	for _, x := range eachText.FindAllStringSubmatch(s, -1) {
		l = append(l, unhex(x[1]))
	}
	return l
}

// modelRead is P16.2.
func modelRead(b []byte) (message.Message, int, api.Errno) {
	x, n, e := ber.Parse(b)
	if e != api.OK {
		return message.Message{}, 0, e
	}
	// Only a third kid can be controls: the patterns leave open what these are.
	if len(x.Kids) > 3 {
		return message.Message{}, 0, api.ErrForm
	}
	x, f := plainFilter(x)
	s := written(x)
	for kind, pattern := range compiled {
		groups := pattern.FindStringSubmatch(s)
		if groups == nil {
			continue
		}
		m := message.Message{Kind: kind, Filter: f}
		for i, field := range strings.Fields("Id " + operations()[kind][1]) {
			setField(&m, field, groups[i+1])
		}
		return m, n, api.OK
	}
	return message.Message{}, 0, api.ErrForm
}

// setField gives a field of m what is written.
func setField(m *message.Message, name, written string) {
	field := reflect.ValueOf(m).Elem().FieldByName(name)
	switch field.Interface().(type) {
	case int:
		n, err := strconv.ParseInt(written, 16, 64)
		if err != nil {
			panic(err)
		}
		field.SetInt(n)
	case string:
		field.SetString(unhex(written))
	case bool:
		field.SetBool(written != "" && written != "00")
	case []string:
		m.Wanted = texts(written)
	case []attrs.Attr:
		for _, s := range eachAttr.FindAllString(written, -1) {
			l := texts(s)
			m.Attrs = append(m.Attrs, attrs.Attr{Name: l[0], Values: l[1:]})
		}
	case []attrs.Change:
		for _, s := range eachChange.FindAllString(written, -1) {
			l := texts(s)
			kind := strings.Index("012", s[len("U16(U10=0"):][:1])
			m.Changes = append(m.Changes, attrs.Change{Kind: kind, Type: l[0], Values: l[1:]})
		}
	default:
		panic(name)
	}
}

// equal tells whether a and b are equal, lists without elements being equal whether nil or not.
func equal(a, b message.Message) bool {
	return equalValues(reflect.ValueOf(a), reflect.ValueOf(b))
}

// equalValues tells whether a and b, of the same type, are equal.
func equalValues(a, b reflect.Value) bool {
	switch a.Kind() {
	case reflect.Slice:
		if a.Len() != b.Len() {
			return false
		}
		for i := range a.Len() {
			if !equalValues(a.Index(i), b.Index(i)) {
				return false
			}
		}
		return true
	case reflect.Struct:
		for i := range a.NumField() {
			if !equalValues(a.Field(i), b.Field(i)) {
				return false
			}
		}
		return true
	}
	return a.Interface() == b.Interface()
}
