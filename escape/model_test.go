package escape_test

import (
	"encoding/hex"
	"fmt"
	"regexp"
	"strings"
	"unicode/utf8"
)

// The patterns are for strings that have one character for each byte: see spread.
var (
	// inName is what P10.3 reads until a byte that is not escaped ends it.
	inName = regexp.MustCompile(`(?s)\A(?:\\.|[^\\"+,;<>=])*`)
	// inDigits and inText are what P10.3 decodes, without the blanks at the beginning. The blanks at the end are not part of the value.
	inDigits = regexp.MustCompile(`\A#((?:[0-9a-fA-F]{2})+) *\z`)
	inText   = regexp.MustCompile(`(?s)\A((?:[^\\]|\\[0-9a-fA-F]{2}|\\["+,;<>=#\\ ])*?) *\z`)
	// inFilter is what P10.4 accepts.
	inFilter = regexp.MustCompile(`(?s)\A(?:[^\\*()\x00]|\\[0-9a-fA-F]{2})*\z`)
	// escapes are what the backslashes of accepted strings stand for.
	escapes = regexp.MustCompile(`(?s)\\(?:[0-9a-fA-F]{2}|.)`)
)

// spread returns s with one character for each byte.
func spread(s string) string {
	var out strings.Builder
	for i := range len(s) {
		out.WriteRune(rune(s[i]))
	}
	return out.String()
}

// bytesOf returns the bytes of a string that has one character for each.
func bytesOf(wide string) string {
	var out []byte
	for _, c := range wide {
		out = append(out, byte(c))
	}
	return string(out)
}

// replaced returns a string that is accepted with what its backslashes stand for.
func replaced(wide string) string {
	return bytesOf(escapes.ReplaceAllStringFunc(wide, func(part string) string {
		if b, err := hex.DecodeString(part[1:]); err == nil && len(b) == 1 {
			return spread(string(b))
		}
		return part[1:]
	}))
}

// modelPut is P10.2.
func modelPut(s string) string {
	out := ""
	for i := range len(s) {
		c := s[i : i+1]
		switch {
		case s[i] < 32 || s[i] == 127 || s[i] >= 128 && !utf8.ValidString(s):
			out += fmt.Sprintf("\\%02x", c)
		case strings.Contains("\"+,;<>=\\", c), c == " " && (i == 0 || i+1 == len(s)), c == "#" && i == 0:
			out += "\\" + c
		default:
			out += c
		}
	}
	return out
}

// modelRead is P10.3.
func modelRead(s string) (string, int, bool) {
	wide := spread(s)
	text := inName.FindString(wide)
	// A backslash that is left is the last byte: it escapes nothing.
	if rest := wide[len(text):]; rest != "" && strings.Contains("\"<>=\\", rest[:1]) {
		return "", 0, false
	}
	n := utf8.RuneCountInString(text)
	text = strings.TrimLeft(text, " ")
	if strings.HasPrefix(text, "#") {
		if m := inDigits.FindStringSubmatch(text); m != nil {
			b, err := hex.DecodeString(m[1])
			return string(b), n, err == nil
		}
		return "", 0, false
	}
	if m := inText.FindStringSubmatch(text); m != nil {
		return replaced(m[1]), n, true
	}
	return "", 0, false
}

// modelFilter is P10.4.
func modelFilter(s string) string {
	out := ""
	for i := range len(s) {
		if c := s[i : i+1]; strings.Contains("*()\\\x00", c) || s[i] >= 128 && !utf8.ValidString(s) {
			out += fmt.Sprintf("\\%02x", c)
		} else {
			out += c
		}
	}
	return out
}

// modelUnfilter is P10.4.
func modelUnfilter(s string) (string, bool) {
	if wide := spread(s); inFilter.MatchString(wide) {
		return replaced(wide), true
	}
	return "", false
}
