package frame_test

import (
	"bytes"
	"encoding/binary"
	"fmt"
	"hash/crc32"
	"math"
	"slices"
	"strings"
	"testing"

	"aquifer/api"
	"aquifer/frame"
)

// record returns what a record is made of: a length, a checksum and bytes, which need not fit each other.
func record(size, check uint32, p string) []byte {
	b := binary.BigEndian.AppendUint32(nil, size)
	b = binary.BigEndian.AppendUint32(b, check)
	return append(b, p...)
}

// right returns the record of p as 4.1 says it.
func right(p string) []byte {
	return record(uint32(len(p)), crc32.ChecksumIEEE([]byte(p)), p)
}

// framed returns the records of some payloads, one after the other, as Frame makes them.
func framed(t *testing.T, payloads ...string) []byte {
	t.Helper()
	var all []byte
	for _, p := range payloads {
		b, e := frame.Frame([]byte(p))
		if e != api.OK {
			t.Fatalf("Frame of %d bytes: error %d", len(p), e)
		}
		all = append(all, b...)
	}
	return all
}

// scans checks what Scan of b returns.
func scans(t *testing.T, what string, b []byte, good int, payloads ...string) {
	t.Helper()
	list, n := frame.Scan(b)
	same := slices.EqualFunc(list, payloads, func(p []byte, s string) bool { return string(p) == s })
	if !same || n != good {
		t.Errorf("%s: Scan returned %.200q %d, want %.200q %d", what, list, n, payloads, good)
	}
}

// someTexts are payloads of many kinds, among them some that look like records, or parts of records.
func someTexts() []string {
	return []string{
		"", "a", "bcd", "\x00", "\x00\x00\x00\x00", strings.Repeat("\x00", 8), strings.Repeat("\xff", 9),
		string(right("")), string(right("x")), string(right("x"))[:8], "é", strings.Repeat("long", 75),
	}
}

// 4.1: the bytes of a record, the example of the chapter among them.
func TestFrame(t *testing.T) {
	long := strings.Repeat("\x00", 0x010203)
	for _, c := range []struct{ p, want string }{
		{"a", "\x00\x00\x00\x01" + "\xe8\xb7\xbe\x43" + "a"},
		{"", "\x00\x00\x00\x00" + "\x00\x00\x00\x00"},
		{"123456789", "\x00\x00\x00\x09" + "\xcb\xf4\x39\x26" + "123456789"},
		{"\x00", "\x00\x00\x00\x01" + "\xd2\x02\xef\x8d" + "\x00"},
		{"\xff\xff\xff\xff", "\x00\x00\x00\x04" + "\xff\xff\xff\xff" + "\xff\xff\xff\xff"},
		{long, string(right(long))},
	} {
		if b, e := frame.Frame([]byte(c.p)); e != api.OK || string(b) != c.want {
			t.Errorf("Frame(%.20q) = %.40q %d, want %.40q", c.p, b, e, c.want)
		}
	}
	if b, e := frame.Frame(nil); e != api.OK || !bytes.Equal(b, make([]byte, 8)) {
		t.Errorf("Frame(nil) = %q %d, want 8 bytes 0", b, e)
	}
	for n := range 600 {
		p := strings.Repeat("x", n)
		if b, e := frame.Frame([]byte(p)); e != api.OK || !bytes.Equal(b, right(p)) {
			t.Errorf("Frame of %d bytes = %.40q %d, want %.40q", n, b, e, right(p))
		}
	}
	for _, p := range someTexts() {
		if b, e := frame.Frame([]byte(p)); e != api.OK || !bytes.Equal(b, right(p)) {
			t.Errorf("Frame(%q) = %q %d, want %q", p, b, e, right(p))
		}
	}
}

// 4.1: MaxFrame bytes are a payload, one more are not.
func TestFrameLong(t *testing.T) {
	for _, n := range []int{api.MaxFrame - 1, api.MaxFrame} {
		p := strings.Repeat("y", n)
		if b, e := frame.Frame([]byte(p)); e != api.OK || !bytes.Equal(b, right(p)) {
			t.Errorf("Frame of %d bytes = %d bytes and error %d, want %d", n, len(b), e, n+8)
		}
	}
	for _, n := range []int{api.MaxFrame + 1, api.MaxFrame + 2, 2*api.MaxFrame + 1, 1 << 24} {
		if b, e := frame.Frame(make([]byte, n)); e != api.ErrLong || b != nil {
			t.Errorf("Frame of %d bytes = %d bytes and error %d, want ErrLong", n, len(b), e)
		}
	}
	// What lies behind the end of a slice in its array is no part of it.
	if b, e := frame.Frame(make([]byte, api.MaxFrame+1)[:1]); e != api.OK || !bytes.Equal(b, right("\x00")) {
		t.Errorf("Frame of one of many bytes = %.40q %d", b, e)
	}
}

// 4.2: the valid records at the beginning, the example of the chapter among them.
func TestScan(t *testing.T) {
	scans(t, "nil", nil, 0)
	for n := range 8 {
		scans(t, fmt.Sprint(n, " bytes 0"), make([]byte, n), 0)
		scans(t, fmt.Sprint(n, " bytes of a record"), right("abc")[:n], 0)
	}
	scans(t, "the empty record", make([]byte, 8), 8, "")
	scans(t, "the empty record and 7 bytes", make([]byte, 15), 8, "")
	scans(t, "three empty records", make([]byte, 24), 24, "", "", "")
	scans(t, "one record", right("a"), 9, "a")
	scans(t, "two records", slices.Concat(right("a"), right("bc")), 19, "a", "bc")
	scans(t, "two equal records", slices.Concat(right("a"), right("a")), 18, "a", "a")
	scans(t, "a record in a record", right(string(right("a"))), 17, string(right("a")))
	scans(t, "a record behind a byte", append([]byte{1}, right("a")...), 0)
	// What lies behind the end of a slice in its array is no part of it.
	scans(t, "a slice of a record", right("ab")[:9], 0)
	scans(t, "a slice of two records", slices.Concat(right("a"), right("b"))[:17], 9, "a")
	for _, p := range someTexts() {
		for _, q := range someTexts() {
			scans(t, fmt.Sprintf("%q and %q", p, q), framed(t, p, q), 16+len(p)+len(q), p, q)
		}
	}
}

// 4.2: the longest record is valid, and one that is longer is not, even if its checksum is right.
func TestScanLong(t *testing.T) {
	longest := strings.Repeat("z", api.MaxFrame)
	scans(t, "the longest", right(longest), api.MaxFrame+8, longest)
	scans(t, "the longest, twice", bytes.Repeat(right(longest), 2), 2*api.MaxFrame+16, longest, longest)
	scans(t, "the longest but its last byte", right(longest)[:api.MaxFrame+7], 0)
	scans(t, "too long", right(longest+"z"), 0)
	scans(t, "too long, behind another", append(right("a"), right(longest+"z")...), 9, "a")
	scans(t, "much too long", right(longest+longest), 0)
}

// notValid are the beginnings of bytes that are no valid record, whatever follows.
func notValid() [][]byte {
	a := crc32.ChecksumIEEE([]byte("a"))
	l := [][]byte{
		record(1, 0, "a"),
		record(1, a+1, "a"),
		record(1, a^1<<31, "a"),
		record(1, ^a, "a"),
		record(1, a, "b"),
		record(0, 1, ""),
		record(0, math.MaxUint32, ""),
		record(2, a, "a"),
		record(api.MaxFrame, a, "a"),
		record(api.MaxFrame+1, a, "a"),
		record(1<<24, a, "a"),
		record(1<<31-1, a, "a"),
		record(1<<31, a, "a"),
		record(math.MaxUint32, a, "a"),
		record(math.MaxUint32-7, a, "a"),
		// The checksum in the wrong order of bytes, and the two words exchanged.
		record(1, a<<24|a>>24|a<<8&0xff0000|a>>8&0xff00, "a"),
		record(a, 1, "a"),
		// The checksum of the length and the bytes together.
		record(1, crc32.ChecksumIEEE([]byte("\x00\x00\x00\x01a")), "a"),
	}
	return l
}

// 4.2: a record whose length, bytes or checksum are not right ends the scan, also if valid ones follow.
func TestScanNotValid(t *testing.T) {
	for _, wrong := range notValid() {
		scans(t, fmt.Sprintf("%q", wrong), wrong, 0)
		scans(t, fmt.Sprintf("%q before others", wrong), slices.Concat(wrong, right("a"), right("b")), 0)
		scans(t, fmt.Sprintf("%q behind one", wrong), slices.Concat(right("first"), wrong), 13, "first")
		scans(t, fmt.Sprintf("%q between two", wrong), slices.Concat(right("first"), wrong, right("second")), 13, "first")
		scans(t, fmt.Sprintf("%q behind two", wrong), slices.Concat(right("first"), right(""), wrong), 21, "first", "")
	}
}

// 4.2: whatever bit is flipped, exactly the records before it are returned.
func TestScanFlipped(t *testing.T) {
	payloads := []string{"a", "", "bcd", "\x00\x00", "last"}
	whole := framed(t, payloads...)
	for at := range whole {
		n, good := 0, 0
		for good+8+len(payloads[n]) <= at {
			good += 8 + len(payloads[n])
			n++
		}
		for bit := range 8 {
			b := bytes.Clone(whole)
			b[at] ^= 1 << bit
			scans(t, fmt.Sprintf("bit %d of byte %d flipped", bit, at), b, good, payloads[:n]...)
		}
	}
}

// 4.3: of records that are truncated at any byte, exactly the complete ones are returned.
func TestScanTruncated(t *testing.T) {
	texts := someTexts()
	for i := range texts {
		for _, payloads := range [][]string{
			texts[i:],
			append(slices.Clone(texts[i:]), texts[:i]...),
			{texts[i], texts[i], ""},
			{"", texts[i], texts[len(texts)-1-i]},
		} {
			whole := framed(t, payloads...)
			n, good := 0, 0
			for k := range len(whole) + 1 {
				if n < len(payloads) && good+8+len(payloads[n]) == k {
					good = k
					n++
				}
				scans(t, fmt.Sprintf("records from %q, truncated at %d", texts[i], k), whole[:k], good, payloads[:n]...)
			}
			if n != len(payloads) {
				t.Fatalf("%d of %d records at the end", n, len(payloads))
			}
		}
	}
}

// 4.2: a list of many records, of which the first one is as good as the last.
func TestScanMany(t *testing.T) {
	const many = 1 << 16
	list, good := frame.Scan(bytes.Repeat(right("ab"), many))
	if len(list) != many || good != many*10 {
		t.Fatalf("Scan returned %d records and %d", len(list), good)
	}
	for i, p := range list {
		if string(p) != "ab" {
			t.Fatalf("record %d is %q", i, p)
		}
	}
}

// R3: arguments stay as they are, and a record shares no memory with its payload or with another record.
func TestFrameMemory(t *testing.T) {
	p := append(make([]byte, 0, 64), "abc"...)
	kept := bytes.Clone(p[:cap(p)])
	one, _ := frame.Frame(p)
	two, _ := frame.Frame(p)
	for i := range one[:cap(one)] {
		one[:cap(one)][i] = 'x'
	}
	if !bytes.Equal(two, right("abc")) {
		t.Errorf("a record changed with another: %q", two)
	}
	if !bytes.Equal(p[:cap(p)], kept) {
		t.Errorf("the argument was changed to %q", p[:cap(p)])
	}
	clear(p)
	if !bytes.Equal(two, right("abc")) {
		t.Errorf("a record changed with its payload: %q", two)
	}
}

// R3: arguments stay as they are, and a payload shares no memory with the bytes it comes from or with another payload.
func TestScanMemory(t *testing.T) {
	payloads := []string{"abc", "", "d", "efghi"}
	b := append(framed(t, payloads...), 0, 0, 0)
	kept := bytes.Clone(b)
	list, _ := frame.Scan(b)
	again, _ := frame.Scan(b)
	for i := range list {
		whole := list[i][:cap(list[i])]
		for j := range whole {
			whole[j] = 'x'
		}
		for j := i + 1; j < len(list); j++ {
			if string(list[j]) != payloads[j] {
				t.Errorf("payload %d changed with payload %d: %q", j, i, list[j])
			}
		}
	}
	if !bytes.Equal(b, kept) {
		t.Errorf("the argument was changed to %q", b)
	}
	clear(b)
	for i, p := range again {
		if string(p) != payloads[i] {
			t.Errorf("payload %d changed with the bytes it came from, or with another result: %q", i, p)
		}
	}
}
