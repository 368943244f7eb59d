package frame_test

import (
	"bytes"
	"encoding/binary"
	"hash/crc32"
	"math/rand"
	"slices"
	"strings"
	"testing"

	"peerage/api"
	"peerage/frame"
)

// Starting sums, with few bits and with many.
var starts = []uint32{0, 1, 2, 1 << 31, 0xedb88320, 0xcbf43926, 0x0f0f0f0f, 0x55555555, 1<<32 - 2, 1<<32 - 1}

// Sizes of records around each number of bytes that their length needs, up to the greatest.
var sizes = []int{0, 1, 2, 3, 4, 5, 127, 128, 255, 256, 257, 4095, 4096, 65534, 65535, api.MaxRecord}

// modelMore is P4.1, bit by bit.
func modelMore(sum uint32, b []byte) uint32 {
	register := ^sum
	for _, c := range b {
		for bit := range 8 {
			differs := register&1 != uint32(c>>bit)&1
			register >>= 1
			if differs {
				register ^= 0xedb88320
			}
		}
	}
	return ^register
}

// modelSeal is the definition of a frame, with the library's checksum.
func modelSeal(b []byte) []byte {
	out := binary.BigEndian.AppendUint32(nil, uint32(len(b)))
	out = append(out, b...)
	return binary.LittleEndian.AppendUint32(out, crc32.ChecksumIEEE(out))
}

// modelOpen is P4.3.
func modelOpen(b []byte) (string, int, api.Errno) {
	if len(b) < 4 {
		return "", 0, api.ErrEnd
	}
	n := int64(binary.BigEndian.Uint32(b))
	if n > 65536 {
		return "", 0, api.ErrBig
	}
	if int64(len(b)) < n+8 {
		return "", 0, api.ErrEnd
	}
	record := b[4 : 4+n]
	if !bytes.Equal(modelSeal(record), b[:n+8]) {
		return "", 0, api.ErrSum
	}
	return string(record), int(n) + 8, api.OK
}

// modelScan is P4.4.
func modelScan(b []byte) ([]string, int, api.Errno) {
	record, n, e := modelOpen(b)
	if len(b) == 0 || e != api.OK {
		if len(b) == 0 {
			e = api.OK
		}
		return nil, 0, e
	}
	records, rest, e := modelScan(b[n:])
	return append([]string{record}, records...), n + rest, e
}

// random returns so many bytes by chance.
func random(r *rand.Rand, size int) []byte {
	b := make([]byte, size)
	r.Read(b)
	return b
}

// mustSeal returns the frame of a record that is not too big.
func mustSeal(t *testing.T, record []byte) []byte {
	t.Helper()
	b, e := frame.Seal(record)
	if e != api.OK {
		t.Fatalf("a record of %d bytes: %v", len(record), e)
	}
	return b
}

// wantOpen holds Open of b against what it must return.
func wantOpen(t *testing.T, b []byte, record string, size int, why api.Errno) {
	t.Helper()
	got, n, e := frame.Open(b)
	if string(got) != record || n != size || e != why {
		t.Errorf("%.40x of %d bytes: %.40x %d %v instead of %.40x %d %v", b, len(b), got, n, e, record, size, why)
	}
}

// wantScan holds Scan of b against what it must return.
func wantScan(t *testing.T, b []byte, records []string, size int, why api.Errno) {
	t.Helper()
	got, n, e := frame.Scan(b)
	same := func(x []byte, y string) bool { return string(x) == y }
	if !slices.EqualFunc(got, records, same) || n != size || e != why {
		t.Errorf("%.40x of %d bytes: %.40q %d %v instead of %.40q %d %v", b, len(b), got, n, e, records, size, why)
	}
}

// P4.1.
func TestSum(t *testing.T) {
	for s, want := range map[string]uint32{
		"":                       0,
		"\x00":                   0xd202ef8d,
		"\xff":                   0xff000000,
		"a":                      0xe8b7be43,
		"abc":                    0x352441c2,
		"123456789":              0xcbf43926,
		"\x00\x00\x00\x00":       0x2144df1c,
		"\xff\xff\xff\xff":       0xffffffff,
		strings.Repeat("a", 100): 0xaf707a64,
		"The quick brown fox jumps over the lazy dog": 0x414fa339,
	} {
		if sum := frame.Sum([]byte(s)); sum != want {
			t.Errorf("%q: %08x instead of %08x", s, sum, want)
		}
	}
	if sum := frame.Sum(nil); sum != 0 {
		t.Errorf("nil: %08x", sum)
	}
}

// P4.1 for each byte, and for each pair of bytes.
func TestSumOfEachByte(t *testing.T) {
	for i := range 1 << 16 {
		one, two := []byte{byte(i)}, []byte{byte(i), byte(i >> 8)}
		if sum, want := frame.Sum(two), modelMore(0, two); sum != want {
			t.Fatalf("%x: %08x instead of %08x", two, sum, want)
		}
		for _, start := range starts {
			if sum, want := frame.More(start, one), modelMore(start, one); i < 256 && sum != want {
				t.Fatalf("%08x and %x: %08x instead of %08x", start, one, sum, want)
			}
		}
	}
}

// P4.1 for each single bit of the register, which is where its effect is seen alone.
func TestMoreOfEachBit(t *testing.T) {
	for bit := range 32 {
		for _, start := range []uint32{1 << bit, ^uint32(1 << bit)} {
			for _, s := range []string{"", "\x00", "\x01", "\x10", "\xff", "\x00\x00\x00\x00\x00"} {
				if sum, want := frame.More(start, []byte(s)), modelMore(start, []byte(s)); sum != want {
					t.Errorf("%08x and %x: %08x instead of %08x", start, s, sum, want)
				}
			}
		}
	}
}

// P4.1: More goes on where a sum ends.
func TestMore(t *testing.T) {
	for _, start := range starts {
		if sum := frame.More(start, nil); sum != start {
			t.Errorf("%08x and nothing: %08x", start, sum)
		}
	}
	r := rand.New(rand.NewSource(1))
	for range 2000 {
		b := random(r, r.Intn(300))
		start := r.Uint32()
		whole := frame.Sum(b)
		if whole != modelMore(0, b) || whole != crc32.ChecksumIEEE(b) || whole != frame.More(0, b) {
			t.Fatalf("%x: %08x", b, whole)
		}
		if sum := frame.More(start, b); sum != modelMore(start, b) || sum != crc32.Update(start, crc32.IEEETable, b) {
			t.Fatalf("%08x and %x: %08x", start, b, sum)
		}
		for at := range len(b) + 1 {
			if sum := frame.More(frame.Sum(b[:at]), b[at:]); sum != whole {
				t.Fatalf("%x and %x: %08x instead of %08x", b[:at], b[at:], sum, whole)
			}
		}
	}
}

// P4.1 for more bytes than a record or a file has: a sum has no limit.
func TestSumOfMany(t *testing.T) {
	b := random(rand.New(rand.NewSource(2)), api.MaxFile+1)
	if sum, want := frame.Sum(b), crc32.ChecksumIEEE(b); sum != want {
		t.Errorf("%08x instead of %08x", sum, want)
	}
}

// P4.2.
func TestSeal(t *testing.T) {
	for record, want := range map[string]string{
		"":     "\x00\x00\x00\x00\x1c\xdf\x44\x21",
		"ab":   "\x00\x00\x00\x02ab\x5f\x2f\x1c\x6d",
		"\x00": "\x00\x00\x00\x01\x00\x5c\xc6\x39\xdf",
	} {
		if b, e := frame.Seal([]byte(record)); string(b) != want || e != api.OK {
			t.Errorf("%x: %x %v instead of %x", record, b, e, want)
		}
	}
	if b, e := frame.Seal(nil); string(b) != "\x00\x00\x00\x00\x1c\xdf\x44\x21" || e != api.OK {
		t.Errorf("nil: %x %v", b, e)
	}
	r := rand.New(rand.NewSource(3))
	for _, size := range sizes {
		for _, record := range [][]byte{make([]byte, size), random(r, size), bytes.Repeat([]byte{255}, size)} {
			if b, e := frame.Seal(record); !bytes.Equal(b, modelSeal(record)) || len(b) != size+8 || e != api.OK {
				t.Errorf("%.40x of %d bytes: %.40x of %d bytes, %v", record, size, b, len(b), e)
			}
		}
	}
}

// P4.2: the limit, and what is beyond it.
func TestSealTooBig(t *testing.T) {
	for _, size := range []int{api.MaxRecord + 1, api.MaxRecord + 2, 1 << 17, api.MaxFile, 1 << 24} {
		if b, e := frame.Seal(make([]byte, size)); b != nil || e != api.ErrBig {
			t.Errorf("%d: %.40x %v", size, b, e)
		}
	}
}

// P4.3.
func TestOpen(t *testing.T) {
	r := rand.New(rand.NewSource(4))
	for _, size := range sizes {
		record := random(r, size)
		b := modelSeal(record)
		wantOpen(t, b, string(record), size+8, api.OK)
		wantOpen(t, b[:len(b)-1], "", 0, api.ErrEnd)
		for _, rest := range []string{"\x00", "\xff\xff\xff\xff", string(b)} {
			wantOpen(t, append(slices.Clone(b), rest...), string(record), size+8, api.OK)
		}
	}
}

// P4.3: each error, and their order.
func TestOpenErrors(t *testing.T) {
	wantOpen(t, nil, "", 0, api.ErrEnd)
	for s, why := range map[string]api.Errno{
		// Fewer than four bytes do not state a length, even if it is too big already.
		"": api.ErrEnd, "\x00": api.ErrEnd, "\x00\x00\x00": api.ErrEnd, "\xff": api.ErrEnd, "\xff\xff\xff": api.ErrEnd, "\x00\x02\x00": api.ErrEnd,
		// A length that is too big is an error whether or not the bytes are there.
		"\x00\x01\x00\x01": api.ErrBig, "\x00\x01\x00\x01\x00": api.ErrBig, "\x00\x02\x00\x00": api.ErrBig, "\x01\x00\x00\x00": api.ErrBig,
		"\x7f\xff\xff\xff": api.ErrBig, "\x80\x00\x00\x00": api.ErrBig, "\xff\xff\xff\xff": api.ErrBig, "\xff\xff\xff\xf8abc": api.ErrBig,
		"\x00\x01\x00\x00": api.ErrEnd, "\x00\x01\x00\x00abcdefgh": api.ErrEnd, "\x00\x00\xff\xff": api.ErrEnd,
		// Without all of its bytes, a checksum is not wrong.
		"\x00\x00\x00\x00": api.ErrEnd, "\x00\x00\x00\x00abc": api.ErrEnd, "\x00\x00\x00\x02ab": api.ErrEnd, "\x00\x00\x00\x02abcde": api.ErrEnd, "\x00\x00\x00\x05abcdefgh": api.ErrEnd,
		"\x00\x00\x00\x00\x00\x00\x00\x00": api.ErrSum, "\x00\x00\x00\x00abcd": api.ErrSum, "\x00\x00\x00\x00abcde": api.ErrSum,
		"\x00\x00\x00\x02ab\x00\x00\x00\x00": api.ErrSum,
		// Neither number is in the other order of bytes.
		"\x00\x00\x00\x00\x21\x44\xdf\x1c": api.ErrSum, "\x00\x00\x00\x02ab\x6d\x1c\x2f\x5f": api.ErrSum, "\x02\x00\x00\x00ab\x5f\x2f\x1c\x6d": api.ErrBig,
		// The checksum is that of the length, too, and of no more than the record after it.
		"\x00\x00\x00\x02ab\x6d\x48\x83\x9e": api.ErrSum, "\x00\x00\x00\x01ab\x5f\x2f\x1c\x6d": api.ErrSum, "\x00\x00\x00\x03ab\x5f\x2f\x1c\x6d": api.ErrEnd,
	} {
		wantOpen(t, []byte(s), "", 0, why)
	}
	big := bytes.Repeat([]byte("x"), api.MaxRecord+1)
	b := modelSeal(big)
	wantOpen(t, b, "", 0, api.ErrBig)
	b = modelSeal(big[1:])
	wantOpen(t, b, string(big[1:]), len(b), api.OK)
	b[api.MaxRecord]++
	wantOpen(t, b, "", 0, api.ErrSum)
	wantOpen(t, b[:len(b)-1], "", 0, api.ErrEnd)
}

// join returns the frames of the records, one after the other.
func join(records ...string) []byte {
	var out []byte
	for _, record := range records {
		out = append(out, modelSeal([]byte(record))...)
	}
	return out
}

// P4.4.
func TestScan(t *testing.T) {
	wantScan(t, nil, nil, 0, api.OK)
	wantScan(t, []byte{}, nil, 0, api.OK)
	for _, records := range [][]string{
		{""}, {"a"}, {"", ""}, {"ab", "", "c"}, {"", "", "x", "", ""}, {"same", "same", "same"}, {strings.Repeat("z", api.MaxRecord), "z"},
		slices.Repeat([]string{"", "x"}, 3000),
	} {
		b := join(records...)
		wantScan(t, b, records, len(b), api.OK)
	}
}

// P4.4: why it ends, with what was found before that.
func TestScanErrors(t *testing.T) {
	for rest, why := range map[string]api.Errno{
		"\x00": api.ErrEnd, "\x00\x00": api.ErrEnd, "\xff\xff\xff": api.ErrEnd, "\x00\x00\x00\x00\x1c\xdf\x44": api.ErrEnd, "\x00\x01\x00\x00abcdefgh": api.ErrEnd,
		"\x00\x01\x00\x01": api.ErrBig, "\xff\xff\xff\xff\xff\xff\xff\xff": api.ErrBig,
		"\x00\x00\x00\x00\x00\x00\x00\x00": api.ErrSum, "\x00\x00\x00\x02ab\x5f\x2f\x1c\x6e": api.ErrSum,
	} {
		for _, records := range [][]string{nil, {""}, {"ab", "", "c"}} {
			b := join(records...)
			wantScan(t, append(slices.Clone(b), rest...), records, len(b), why)
		}
	}
	// What comes after an error is not opened.
	for _, bad := range []string{"\x00\x00\x00\x00\x00\x00\x00\x00", "\x00\x01\x00\x01"} {
		b := slices.Concat(join("ab"), []byte(bad), join("c", "d"))
		why := api.ErrSum
		if bad[1] != 0 {
			why = api.ErrBig
		}
		wantScan(t, b, []string{"ab"}, 10, why)
		wantScan(t, b[10:], nil, 0, why)
	}
}

// P4.3 and P4.4 for bytes by chance: some frames, some of which are spoilt.
func TestRandom(t *testing.T) {
	r := rand.New(rand.NewSource(5))
	for range 20000 {
		var b []byte
		for range r.Intn(5) {
			b = append(b, modelSeal(random(r, r.Intn(1+r.Intn(40))))...)
		}
		b = append(b, random(r, r.Intn(3))...)
		for range r.Intn(3) {
			if len(b) > 0 {
				b[r.Intn(len(b))] = byte(r.Intn(256) & r.Intn(256))
			}
		}
		record, n, why := modelOpen(b)
		wantOpen(t, b, record, n, why)
		records, n, why := modelScan(b)
		wantScan(t, b, records, n, why)
		if t.Failed() {
			return
		}
	}
}

// P4.5: a frame is opened to the record that was sealed, whatever follows it.
func TestRoundTrip(t *testing.T) {
	r := rand.New(rand.NewSource(6))
	for _, size := range sizes {
		for _, record := range [][]byte{make([]byte, size), random(r, size)} {
			b := mustSeal(t, record)
			for _, rest := range [][]byte{nil, {0}, {0, 0, 0, 0}, {255, 255, 255, 255}, b, random(r, 20)} {
				wantOpen(t, slices.Concat(b, rest), string(record), len(b), api.OK)
			}
		}
	}
	// A frame is a record, too.
	b := mustSeal(t, mustSeal(t, mustSeal(t, nil)))
	wantOpen(t, b, "\x00\x00\x00\x08\x00\x00\x00\x00\x1c\xdf\x44\x21"+string(b[16:20]), 24, api.OK)
}

// invert inverts the bits of b that pattern has, from the bit at on, each byte's least significant bit first.
func invert(b []byte, at int, pattern uint32) {
	for bit := range 32 {
		if pattern>>bit&1 == 1 {
			b[(at+bit)/8] ^= 1 << ((at + bit) % 8)
		}
	}
}

// wantNoOpen holds Open of b with these bits inverted against P4.5, and leaves b as it was.
func wantNoOpen(t *testing.T, b []byte, at int, pattern uint32) {
	t.Helper()
	invert(b, at, pattern)
	wantOpen(t, b, "", 0, api.ErrSum)
	invert(b, at, pattern)
}

// P4.5: inverted bits that lie within 32 consecutive ones are found, wherever they are after the length.
func TestInvertedBits(t *testing.T) {
	r := rand.New(rand.NewSource(7))
	for _, size := range []int{0, 1, 2, 5, 30} {
		b := mustSeal(t, random(r, size))
		for at := 32; at < len(b)*8; at++ {
			left := min(32, len(b)*8-at)
			all := uint32(1<<left - 1)
			patterns := []uint32{1, all, 1 | 1<<(left-1), 0xedb88320&all | 1, 0xdb710641&all | 1}
			for few := range uint32(256) {
				patterns = append(patterns, few<<1&all|1)
			}
			for range 50 {
				patterns = append(patterns, r.Uint32()&all|1)
			}
			for _, pattern := range patterns {
				wantNoOpen(t, b, at, pattern)
			}
			if t.Failed() {
				return
			}
		}
	}
}

// P4.5 for the greatest record.
func TestInvertedBitsOfGreatest(t *testing.T) {
	r := rand.New(rand.NewSource(8))
	b := mustSeal(t, random(r, api.MaxRecord))
	last := len(b)*8 - 32
	for range 200 {
		wantNoOpen(t, b, 32+r.Intn(last-31), r.Uint32()|1)
	}
	for _, at := range []int{32, 33, last - 1, last} {
		wantNoOpen(t, b, at, 1<<32-1)
		wantNoOpen(t, b, at, 1)
	}
}

// P4.5: of each prefix of some frames, those are scanned that are complete in it.
func TestScanOfPrefixes(t *testing.T) {
	records := []string{"ab", "", "", "\x00\x00\x00\x00\x1c\xdf\x44\x21", "x", strings.Repeat("long", 100), "\xff\xff\xff\xff", ""}
	var b []byte
	ends := []int{0}
	for _, record := range records {
		b = append(b, mustSeal(t, []byte(record))...)
		ends = append(ends, len(b))
	}
	complete := 0
	for size := range len(b) + 1 {
		why := api.ErrEnd
		if complete < len(records) && size == ends[complete+1] {
			complete++
		}
		if size == ends[complete] {
			why = api.OK
		}
		wantScan(t, b[:size], records[:complete], ends[complete], why)
	}
	if complete != len(records) {
		t.Error(complete)
	}
}

// Rules 4 and 8: arguments are left as they are, with the memory after their ends.
func TestArgumentsRemain(t *testing.T) {
	room := []byte("0123456789abcdef")
	for _, size := range []int{0, 2, 16} {
		if _, e := frame.Seal(room[:size]); e != api.OK || string(room) != "0123456789abcdef" {
			t.Errorf("%d: %s %v", size, room, e)
		}
		if frame.Sum(room[:size]) != modelMore(0, room[:size]) || string(room) != "0123456789abcdef" {
			t.Errorf("%d: %s", size, room)
		}
	}
	b := join("ab", "c", "")
	before := string(b)
	for size := range len(b) + 1 {
		frame.Open(b[:size])
		frame.Scan(b[:size])
		if string(b) != before {
			t.Fatalf("%d: %x", size, b)
		}
	}
	// What is missing lies after the end.
	wantOpen(t, b[:9], "", 0, api.ErrEnd)
	wantOpen(t, b[:3], "", 0, api.ErrEnd)
	wantOpen(t, b[:0], "", 0, api.ErrEnd)
	wantScan(t, b[:18], []string{"ab"}, 10, api.ErrEnd)
	wantScan(t, b[:10], []string{"ab"}, 10, api.OK)
	wantScan(t, b[:0], nil, 0, api.OK)
}

// spoil overwrites all memory of b.
func spoil(b []byte) {
	b = b[:cap(b)]
	for i := range b {
		b[i] = 'X'
	}
}

// Rule 4: results are new memory, and each record is too.
func TestResultsAreNew(t *testing.T) {
	for _, record := range []string{"", "a", "abcdefghi", strings.Repeat("z", 1000)} {
		in := []byte(record)
		b := mustSeal(t, in)
		spoil(b)
		if string(in) != record || !bytes.Equal(mustSeal(t, in), join(record)) {
			t.Errorf("%.40q: %.40q", record, in)
		}
		b = mustSeal(t, in)
		spoil(in)
		wantOpen(t, b, record, len(b), api.OK)
		out, _, _ := frame.Open(b)
		spoil(out)
		wantOpen(t, b, record, len(b), api.OK)
		out, _, _ = frame.Open(b)
		spoil(b)
		if string(out) != record {
			t.Errorf("%.40q: %.40q", record, out)
		}
	}
	records := []string{"ab", "", "cd", "ab"}
	b := join(records...)
	for i := range records {
		out, _, _ := frame.Scan(b)
		spoil(out[i])
		wantScan(t, b, records, len(b), api.OK)
		for j := range out {
			if j != i && string(out[j]) != records[j] {
				t.Errorf("%d and %d: %q", i, j, out)
			}
		}
	}
	out, _, _ := frame.Scan(b)
	spoil(b)
	if string(bytes.Join(out, nil)) != "abcdab" {
		t.Errorf("%q", out)
	}
}
