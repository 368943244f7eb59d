package value

import (
	"strings"

	"peerage/fold"
	"peerage/oid"
	"peerage/real"
	"peerage/schema"
	"peerage/whole"
)

// blank is the white space in normalized strings.
const blank = " "

// The texts of the truth values.
const (
	trueText  = "TRUE"
	falseText = "FALSE"
)

// rules are those of the values of one syntax.
type rules interface {
	// normalize returns the text that stands for all values equal to v, and true; anything and false if v is not valid.
	normalize(v string) (string, bool)
	// order compares two normalized values; 0 and false if they have no order.
	order(a, b string) (int, bool)
	// seek tells whether a normalized value has the parts p, and true; false and false if nothing is sought in such values.
	seek(text string, p Parts) (is, ok bool)
}

// rulesOf returns the rules of a syntax.
func rulesOf(syntax int) rules {
	switch syntax {
	case schema.Words:
		return words{}
	case schema.Exact:
		return exactWords{}
	case schema.Whole:
		return integers{}
	case schema.Truth:
		return truths{}
	case schema.Octets:
		return octets{}
	case schema.Numeric:
		return digits{}
	case schema.Real:
		return floats{}
	case schema.Object:
		return objects{}
	}
	return nothing{}
}

// bytewise is the order of most syntaxes.
type bytewise struct{}

func (bytewise) order(a, b string) (int, bool) {
	return strings.Compare(a, b), true
}

// unordered is for syntaxes without an order.
type unordered struct{}

func (unordered) order(a, b string) (int, bool) {
	return 0, false
}

// unsought is for syntaxes in whose values nothing is sought.
type unsought struct{}

func (unsought) seek(text string, p Parts) (is, ok bool) {
	return false, false
}

// words are strings in which capital letters do not count.
type words struct{ bytewise }

func (words) normalize(v string) (string, bool) {
	text := fold.Fold(v)
	return text, fold.Right(v) && text != ""
}

func (words) seek(text string, p Parts) (is, ok bool) {
	return has(text, p, fold.Piece), true
}

// exactWords are strings in which capital letters count.
type exactWords struct{ bytewise }

func (exactWords) normalize(v string) (string, bool) {
	text := fold.Exact(v)
	return text, fold.Right(v) && text != ""
}

func (exactWords) seek(text string, p Parts) (is, ok bool) {
	return has(text, p, exactPiece), true
}

// exactPiece is fold.Piece, but letters are not changed.
func exactPiece(part string) string {
	// fold.Exact drops white space at the ends: this is no end while something else stands there.
	const guard = "|"
	text := fold.Exact(guard + part + guard)
	return strings.TrimSuffix(strings.TrimPrefix(text, guard), guard)
}

// integers are whole numbers of any length.
type integers struct{ unsought }

func (integers) normalize(v string) (string, bool) {
	return whole.Plain(v), whole.Valid(v)
}

func (integers) order(a, b string) (int, bool) {
	return whole.Compare(a, b), true
}

// truths are truth values.
type truths struct {
	unordered
	unsought
}

func (truths) normalize(v string) (string, bool) {
	return strings.Clone(v), v == trueText || v == falseText
}

// octets are strings of any bytes.
type octets struct {
	bytewise
	unsought
}

func (octets) normalize(v string) (string, bool) {
	return strings.Clone(v), true
}

// digits are strings of digits.
type digits struct{ bytewise }

func (digits) normalize(v string) (string, bool) {
	return fold.Numeric(v)
}

func (digits) seek(text string, p Parts) (is, ok bool) {
	return has(text, p, withoutBlanks), true
}

// withoutBlanks returns part without its blanks. Unlike fold.Numeric, it takes a part without digits, or with other bytes than these.
func withoutBlanks(part string) string {
	return strings.ReplaceAll(part, blank, "")
}

// floats are floating-point numbers.
type floats struct{ unsought }

func (floats) normalize(v string) (string, bool) {
	x, ok := real.Parse(v)
	return real.Text(x), ok
}

func (floats) order(a, b string) (int, bool) {
	x, _ := real.Parse(a)
	y, _ := real.Parse(b)
	return real.Order(x, y), true
}

// objects are identifiers, and names of classes and others.
type objects struct {
	unordered
	unsought
}

func (objects) normalize(v string) (string, bool) {
	if !oid.Numeric(v) && !oid.Word(v) {
		return "", false
	}
	// A class has several names, of which one stands for all.
	if c, ok := schema.FindClass(v); ok {
		v = c.Name
	}
	return oid.Lower(v), true
}

// nothing is for what is no syntax and for Name, whose keys are made elsewhere: no value is valid.
type nothing struct {
	unordered
	unsought
}

func (nothing) normalize(v string) (string, bool) {
	return "", false
}
