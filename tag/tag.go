// Package tag is layer 1, the identifiers and lengths of BER: see shared/doc/01-tag.md.
package tag

import (
	"math/bits"

	"peerage/api"
)

// The classes of identifiers. Their numbers are the highest two bits of an identifier.
const (
	Universal = iota
	Application
	Context
	Private
)

// The parts of an identifier's bytes.
const (
	classShift = 6         // where the class begins in the first byte
	madeBit    = 1 << 5    // set in the first byte of what is constructed
	longNumber = 1<<5 - 1  // stands in the first byte for a number that follows
	numberBits = 7         // of each byte of a number that follows
	moreBit    = 1 << 7    // set in each byte of such a number but the last
	maxGroups  = 4         // bytes of such a number
	maxNumber  = 1<<28 - 1 // what fits in that many
)

// The parts of a length's bytes.
const (
	longLength = 1 << 7    // in the first byte: the number of the bytes that follow is added to it
	reserved   = 1<<8 - 1  // a first byte that BER keeps for later uses
	lengthBits = 8         // of each byte that follows
	maxFollow  = 4         // bytes that follow, of a length that is read
	maxLength  = 1<<31 - 1 // the greatest length that is read
)

// mostBytes is enough room for what one call puts: one byte, and the eight of the greatest int.
const mostBytes = 9

// Tag is an element's identifier: its class, whether it is made of elements, and its number.
type Tag struct {
	Class  int
	Made   bool
	Number int
}

// Right tells whether t is an identifier that Put can encode.
func Right(t Tag) bool {
	return t.Class >= Universal && t.Class <= Private && t.Number >= 0 && t.Number <= maxNumber
}

// Put returns a copy of b with the bytes of t after it, or with nothing after it if t is not valid.
func Put(b []byte, t Tag) []byte {
	out := roomy(b)
	if !Right(t) {
		return out
	}
	first := byte(t.Class) << classShift
	if t.Made {
		first |= madeBit
	}
	if t.Number < longNumber {
		return append(out, first|byte(t.Number))
	}
	out = append(out, first|longNumber)
	eachGroup(t.Number, numberBits, func(group byte, last bool) {
		if !last {
			group |= moreBit
		}
		out = append(out, group)
	})
	return out
}

// Read returns the identifier that b begins with, and how many bytes it has.
func Read(b []byte) (Tag, int, api.Errno) {
	if len(b) == 0 {
		return Tag{}, 0, api.ErrEnd
	}
	t := Tag{Class: int(b[0] >> classShift), Made: b[0]&madeBit != 0, Number: int(b[0] & longNumber)}
	if t.Number != longNumber {
		return t, 1, api.OK
	}
	number, used, e := readNumber(b[1:])
	if e != api.OK {
		return Tag{}, 0, e
	}
	t.Number = number
	return t, 1 + used, api.OK
}

// readNumber returns the number that follows the first byte of an identifier, and how many bytes it has.
func readNumber(b []byte) (int, int, api.Errno) {
	number := 0
	for i := range maxGroups {
		if i == len(b) {
			return 0, 0, api.ErrEnd
		}
		// A first byte of 128 is a leading zero; one below 31 is a number that has a short form.
		if i == 0 && (b[i] == moreBit || b[i] < longNumber) {
			return 0, 0, api.ErrForm
		}
		number = number<<numberBits | int(b[i]&^moreBit)
		if b[i] < moreBit {
			return number, i + 1, api.OK
		}
	}
	return 0, 0, api.ErrForm
}

// PutLen returns a copy of b with the bytes of the length n after it, or with nothing after it if n is negative.
func PutLen(b []byte, n int) []byte {
	out := roomy(b)
	if n < 0 {
		return out
	}
	if n < longLength {
		return append(out, byte(n))
	}
	out = append(out, longLength+byte(groups(n, lengthBits)))
	eachGroup(n, lengthBits, func(group byte, _ bool) { out = append(out, group) })
	return out
}

// ReadLen returns the length that b begins with, and how many bytes the length itself has.
func ReadLen(b []byte) (int, int, api.Errno) {
	if len(b) == 0 {
		return 0, 0, api.ErrEnd
	}
	if b[0] == longLength || b[0] == reserved {
		return 0, 0, api.ErrForm
	}
	if b[0] < longLength {
		return int(b[0]), 1, api.OK
	}
	follow := int(b[0] - longLength)
	if follow > maxFollow {
		return 0, 0, api.ErrBig
	}
	if len(b)-1 < follow {
		return 0, 0, api.ErrEnd
	}
	// Four bytes always fit in a uint32, but not in an int of 32 bits.
	var n uint32
	for _, c := range b[1 : 1+follow] {
		n = n<<lengthBits | uint32(c)
	}
	if n > maxLength {
		return 0, 0, api.ErrBig
	}
	return int(n), 1 + follow, api.OK
}

// roomy returns a copy of b to which some bytes can be appended: appending to b itself could write into memory that the caller still uses.
func roomy(b []byte) []byte {
	return append(make([]byte, 0, len(b)+mostBytes), b...)
}

// groups returns how many groups of width bits n, which is above 0, has.
func groups(n, width int) int {
	return (bits.Len(uint(n)) + width - 1) / width
}

// eachGroup calls do with each group of width bits of n, the most significant first, and with whether it is the last one.
func eachGroup(n, width int, do func(group byte, last bool)) {
	mask := 1<<width - 1
	for i := groups(n, width) - 1; i >= 0; i-- {
		do(byte(n>>(i*width)&mask), i == 0)
	}
}
