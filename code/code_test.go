package code_test

import (
	"bytes"
	"fmt"
	"math"
	"slices"
	"strings"
	"testing"

	"aquifer/api"
	"aquifer/code"
)

// 2.1: the number modulo 2^32, most significant byte first.
func TestU32(t *testing.T) {
	for _, c := range []struct {
		n    int
		want []byte
	}{
		{0, []byte{0, 0, 0, 0}},
		{1, []byte{0, 0, 0, 1}},
		{255, []byte{0, 0, 0, 255}},
		{256, []byte{0, 0, 1, 0}},
		{0x01020304, []byte{1, 2, 3, 4}},
		{1<<31 - 1, []byte{127, 255, 255, 255}},
		{1 << 31, []byte{128, 0, 0, 0}},
		{1<<32 - 1, []byte{255, 255, 255, 255}},
		{1 << 32, []byte{0, 0, 0, 0}},
		{1<<40 + 7, []byte{0, 0, 0, 7}},
		{-1, []byte{255, 255, 255, 255}},
		{-256, []byte{255, 255, 255, 0}},
		{math.MaxInt, []byte{255, 255, 255, 255}},
		{math.MinInt, []byte{0, 0, 0, 0}},
	} {
		if got := code.U32(c.n); !bytes.Equal(got, c.want) {
			t.Errorf("U32(%d) = %v, want %v", c.n, got, c.want)
		}
	}
}

// 2.1: the number at an index, where all four bytes are there.
func TestGet(t *testing.T) {
	b := []byte{9, 0, 0, 1, 2, 255, 255, 255, 254}
	for _, c := range []struct {
		b    []byte
		at   int
		want int
		ok   bool
	}{
		{[]byte{9, 0, 0, 1, 2}, 1, 258, true},
		{[]byte{9, 0, 0, 1, 2}, 2, 0, false},
		{b, 0, 9<<24 + 1, true},
		{b, 5, 1<<32 - 2, true},
		{b, 6, 0, false},
		{b, 8, 0, false},
		{b, 9, 0, false},
		{b, 10, 0, false},
		{b, -1, 0, false},
		{b, -4, 0, false},
		{b, math.MaxInt, 0, false},
		{b, math.MaxInt - 3, 0, false},
		{b, math.MinInt, 0, false},
		{[]byte{1, 2, 3}, 0, 0, false},
		{[]byte{1, 2, 3}, -1, 0, false},
		{[]byte{}, 0, 0, false},
		{nil, 0, 0, false},
		{nil, -4, 0, false},
		// What lies behind the end of a slice in its array is no part of it.
		{b[:3], 0, 0, false},
	} {
		if got, ok := code.Get(c.b, c.at); got != c.want || ok != c.ok {
			t.Errorf("Get(%v, %d) = %d %v, want %d %v", c.b, c.at, got, ok, c.want, c.ok)
		}
	}
}

// 2.1: Get reads what U32 wrote.
func TestGetOfU32(t *testing.T) {
	for shift := range 33 {
		for _, n := range []int{1<<shift - 1, 1 << shift, 1<<shift + 1} {
			if got, ok := code.Get(code.U32(n), 0); !ok || got != n%(1<<32) {
				t.Errorf("Get(U32(%d), 0) = %d %v", n, got, ok)
			}
		}
	}
}

// 2.2: the bytes of an encoding, and the list that they give back.
func TestEncode(t *testing.T) {
	long := strings.Repeat("x", 0x0102)
	for _, c := range []struct {
		l    []string
		want string
	}{
		{nil, "\x00\x00\x00\x00"},
		{[]string{}, "\x00\x00\x00\x00"},
		{[]string{""}, "\x00\x00\x00\x01" + "\x00\x00\x00\x00"},
		{[]string{"", ""}, "\x00\x00\x00\x02" + "\x00\x00\x00\x00" + "\x00\x00\x00\x00"},
		{[]string{"ab", "", "c"}, "\x00\x00\x00\x03" + "\x00\x00\x00\x02ab" + "\x00\x00\x00\x00" + "\x00\x00\x00\x01c"},
		{[]string{"c", "ab"}, "\x00\x00\x00\x02" + "\x00\x00\x00\x01c" + "\x00\x00\x00\x02ab"},
		{[]string{"\x00\xff\x80"}, "\x00\x00\x00\x01" + "\x00\x00\x00\x03\x00\xff\x80"},
		{[]string{"é"}, "\x00\x00\x00\x01" + "\x00\x00\x00\x02\xc3\xa9"},
		{[]string{long}, "\x00\x00\x00\x01" + "\x00\x00\x01\x02" + long},
		{make([]string, 300), "\x00\x00\x01\x2c" + strings.Repeat("\x00", 1200)},
	} {
		b := code.Encode(c.l)
		if string(b) != c.want {
			t.Errorf("Encode(%q) = %v, want %v", c.l, b, []byte(c.want))
		}
		if l, e := code.Decode([]byte(c.want)); e != api.OK || !slices.Equal(l, c.l) {
			t.Errorf("Decode(%q) = %q %d, want %q", c.want, l, e, c.l)
		}
	}
}

// 2.2: bytes that are no encoding.
func TestDecodeOfOther(t *testing.T) {
	for _, s := range []string{
		"",
		"\x00\x00\x00",
		"\x00\x00\x00\x00\x00",
		"\x00\x00\x00\x00" + "\x00\x00\x00\x00",
		"\x00\x00\x00\x01",
		"\x00\x00\x00\x01" + "\x00\x00\x00",
		"\x00\x00\x00\x01" + "\x00\x00\x00\x05a",
		"\x00\x00\x00\x01" + "\x00\x00\x00\x01",
		"\x00\x00\x00\x01" + "\x00\x00\x00\x01ab",
		"\x00\x00\x00\x01" + "\x00\x00\x00\x00" + "\x00\x00\x00\x00",
		"\x00\x00\x00\x02" + "\x00\x00\x00\x00",
		"\x00\x00\x00\x02" + "\x00\x00\x00\x04\x00\x00\x00\x00",
		"\x00\x00\x00\x02" + "\x00\x00\x00\x01a" + "\x00\x00\x00\x02b",
		"\x01\x00\x00\x00" + "\x00\x00\x00\x00",
		"\xff\xff\xff\xff",
		"\xff\xff\xff\xff" + "\x00\x00\x00\x00",
		"\x00\x00\x00\x01" + "\xff\xff\xff\xff",
		"\x00\x00\x00\x01" + "\x80\x00\x00\x00a",
	} {
		if l, e := code.Decode([]byte(s)); e != api.ErrForm || l != nil {
			t.Errorf("Decode(%v) = %q %d, want ErrForm", []byte(s), l, e)
		}
	}
	if l, e := code.Decode(nil); e != api.ErrForm || l != nil {
		t.Errorf("Decode(nil) = %q %d, want ErrForm", l, e)
	}
}

// someLists are all lists of up to three of some texts, among them texts that look like encodings.
func someLists() [][]string {
	texts := []string{"", "a", "b", "ab", "\x00\x00\x00\x00", "\x00\x00\x00\x01", "\x00\x00\x00\x01\x00\x00\x00\x00"}
	all := [][]string{{}}
	from := 0
	for range 3 {
		to := len(all)
		for _, l := range all[from:to] {
			for _, s := range texts {
				all = append(all, append(slices.Clone(l), s))
			}
		}
		from = to
	}
	return all
}

// 2.2, 2.3: every list comes back, and nothing shorter or longer than an encoding is one.
func TestCutAndMore(t *testing.T) {
	for _, l := range someLists() {
		b := code.Encode(l)
		if back, e := code.Decode(b); e != api.OK || !slices.Equal(back, l) {
			t.Errorf("Decode(Encode(%q)) = %q %d", l, back, e)
		}
		for k := range b {
			if back, e := code.Decode(b[:k]); e != api.ErrForm || back != nil {
				t.Errorf("Decode of %d bytes of Encode(%q) = %q %d, want ErrForm", k, l, back, e)
			}
		}
		for _, more := range []string{"\x00", "a", "\x00\x00\x00\x00", string(b)} {
			if back, e := code.Decode(append(slices.Clone(b), more...)); e != api.ErrForm || back != nil {
				t.Errorf("Decode of Encode(%q) and %q = %q %d, want ErrForm", l, more, back, e)
			}
		}
	}
}

// 2.3: different lists have different encodings, and none is a prefix of another one.
func TestNoPrefix(t *testing.T) {
	lists := someLists()
	encodings := make([][]byte, len(lists))
	for i, l := range lists {
		encodings[i] = code.Encode(l)
	}
	for i, a := range encodings {
		for j, b := range encodings {
			if i != j && bytes.HasPrefix(b, a) {
				t.Fatalf("Encode(%q) is a prefix of Encode(%q)", lists[i], lists[j])
			}
		}
	}
}

// 2.2: of all bytes 0, 1 and 2 up to a length of 12, Decode returns a list if and only if they are its encoding.
func TestDecodeOfAllBytes(t *testing.T) {
	good := 0
	var check func(b []byte)
	check = func(b []byte) {
		l, e := code.Decode(b)
		switch {
		case e == api.OK && bytes.Equal(code.Encode(l), b):
			good++
		case e != api.ErrForm || l != nil:
			t.Errorf("Decode(%v) = %q %d", b, l, e)
		}
		for c := range byte(3) {
			if len(b) < 12 {
				check(append(b, c))
			}
		}
	}
	check(make([]byte, 0, 12))
	// The lists are none, "", each text of one or two of these bytes, and "" twice.
	if good != 1+1+3+9+1 {
		t.Errorf("Decode returned %d lists, want 15", good)
	}
}

// R3: arguments stay as they are, and no result shares memory with an argument or with another result.
func TestMemory(t *testing.T) {
	l := []string{"ab", "", "c"}
	b := code.Encode(l)
	kept := slices.Clone(b)
	got, _ := code.Decode(b)
	if !bytes.Equal(b, kept) {
		t.Errorf("Decode changed its argument to %v", b)
	}
	for i := range b {
		b[i] = 'x'
	}
	if !slices.Equal(got, []string{"ab", "", "c"}) {
		t.Errorf("a list changed with the bytes that it came from: %q", got)
	}
	if again := code.Encode(l); !bytes.Equal(again, kept) {
		t.Errorf("Encode returned %v, want %v", again, kept)
	}
	u := code.U32(7)
	spoil := append(u[:0], 1, 2, 3, 4, 5, 6, 7, 8)
	if again := code.U32(7); !bytes.Equal(again, []byte{0, 0, 0, 7}) {
		t.Errorf("U32(7) = %v after %v", again, spoil)
	}
	if fmt.Sprintf("%q", l) != `["ab" "" "c"]` {
		t.Errorf("Encode changed its argument to %q", l)
	}
}
