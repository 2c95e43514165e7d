package sum_test

import (
	"bytes"
	"hash/crc32"
	"math"
	"math/bits"
	"testing"

	"aquifer/sum"
)

// someBytes returns n bytes that follow no short rule, but are the same in every run.
func someBytes(n, seed int) []byte {
	b := make([]byte, n)
	x := uint32(seed)
	for i := range b {
		x = x*1664525 + 1013904223
		b[i] = byte(x >> 24)
	}
	return b
}

// 3.1: known sums, the example of the chapter among them.
func TestSum(t *testing.T) {
	for _, c := range []struct {
		b    []byte
		want int
	}{
		{nil, 0},
		{[]byte{}, 0},
		{[]byte("123456789"), 0xcbf43926},
		{[]byte("a"), 0xe8b7be43},
		{[]byte("abc"), 0x352441c2},
		{[]byte{0}, 0xd202ef8d},
		{[]byte{0, 0, 0, 0}, 0x2144df1c},
		{[]byte{255}, 0xff000000},
		{[]byte{255, 255, 255, 255}, 0xffffffff},
		{make([]byte, 32), 0x190a55ad},
		{[]byte("The quick brown fox jumps over the lazy dog"), 0x414fa339},
		// What lies behind the end of a slice in its array is no part of it.
		{[]byte("123456789x")[:9], 0xcbf43926},
	} {
		if got := sum.Sum(c.b); got != c.want {
			t.Errorf("Sum(%q) = %#x, want %#x", c.b, got, c.want)
		}
	}
}

// 3.1: Sum is the CRC-32 that Go's library computes, for every single byte and for every length up to 300.
func TestSumOfMany(t *testing.T) {
	for c := range 256 {
		b := []byte{byte(c)}
		if got, want := sum.Sum(b), int(crc32.ChecksumIEEE(b)); got != want {
			t.Errorf("Sum(%v) = %#x, want %#x", b, got, want)
		}
	}
	for n := range 300 {
		b := someBytes(n, n)
		if got, want := sum.Sum(b), int(crc32.ChecksumIEEE(b)); got != want {
			t.Errorf("Sum of %d bytes = %#x, want %#x", n, got, want)
		}
	}
	b := someBytes(1<<20+3, 1)
	if got, want := sum.Sum(b), int(crc32.ChecksumIEEE(b)); got != want {
		t.Errorf("Sum of %d bytes = %#x, want %#x", len(b), got, want)
	}
}

// 3.1: More goes on from a sum, the example of the chapter among them.
func TestMore(t *testing.T) {
	for _, c := range []struct {
		s    int
		b    []byte
		want int
	}{
		{sum.Sum([]byte("1234")), []byte("56789"), 0xcbf43926},
		{0, []byte("123456789"), 0xcbf43926},
		{0xcbf43926, nil, 0xcbf43926},
		{0xcbf43926, []byte{}, 0xcbf43926},
		{0, nil, 0},
		{0xffffffff, nil, 0xffffffff},
		{0xffffffff, []byte{0, 0, 0}, 0xffffffff},
		{0xffffffff, []byte{1}, 0x88f8cf69},
		{0, []byte{0}, 0xd202ef8d},
	} {
		if got := sum.More(c.s, c.b); got != c.want {
			t.Errorf("More(%#x, %q) = %#x, want %#x", c.s, c.b, got, c.want)
		}
	}
}

// 3.1: the sum that More is given counts modulo 2^32, also where it is negative or larger; the result never is.
func TestMoreModulo(t *testing.T) {
	for _, c := range []struct{ s, same int }{
		{1 << 32, 0},
		{1<<32 + 7, 7},
		{1<<40 + 3, 3},
		{1<<33 - 1, 1<<32 - 1},
		{-1, 1<<32 - 1},
		{-7, 1<<32 - 7},
		{-1 << 31, 1 << 31},
		{-1<<31 - 1, 1<<31 - 1},
		{-1 << 32, 0},
		{-1<<40 + 9, 9},
		{math.MaxInt, 1<<32 - 1},
		{math.MinInt, 0},
	} {
		if got := sum.More(c.s, nil); got != c.same {
			t.Errorf("More(%d, nil) = %d, want %d", c.s, got, c.same)
		}
		for n := range 6 {
			b := someBytes(n, 5)
			want := int(crc32.Update(uint32(c.same), crc32.IEEETable, b))
			if got := sum.More(c.s, b); got != want {
				t.Errorf("More(%d, %v) = %d, want %d", c.s, b, got, want)
			}
		}
	}
}

// 3.1: every number is the Sum of some bytes; of those that end in nothing, More returns the number itself.
func TestMoreOfNothing(t *testing.T) {
	for shift := range 32 {
		for _, s := range []int{1<<shift - 1, 1 << shift, 1<<shift + 1} {
			if got := sum.More(s, nil); got != s {
				t.Errorf("More(%d, nil) = %d", s, got)
			}
		}
	}
}

// 3.2: More(Sum(a), b) is the Sum of a followed by b, wherever the cut between them is, and for cuts in three parts.
func TestMoreOfSum(t *testing.T) {
	whole := someBytes(60, 3)
	want := sum.Sum(whole)
	for i := range len(whole) + 1 {
		first := sum.Sum(whole[:i])
		if got := sum.More(first, whole[i:]); got != want {
			t.Errorf("cut at %d: %#x, want %#x", i, got, want)
		}
		for j := i; j <= len(whole); j++ {
			if got := sum.More(sum.More(first, whole[i:j]), whole[j:]); got != want {
				t.Errorf("cut at %d and %d: %#x, want %#x", i, j, got, want)
			}
		}
	}
}

// flip changes one bit of b. Bits are numbered in the order in which the sum takes them, the lowest of a byte first: in
// the other order 3.2 would not hold (0 0 0 0 0 and 0a 1e e9 d5 e0 have the same Sum and differ within 31 such bits).
func flip(b []byte, bit int) {
	b[bit/8] ^= 1 << (bit % 8)
}

// 3.2: a change within 32 consecutive bits changes the Sum, for many changes at every place and every length.
func TestChange(t *testing.T) {
	changes := []uint32{1, 1 << 31, 1<<31 + 1, 1<<32 - 1, 0xedb88320, 0x04c11db7, 0x82608edb, 0x80000003, 0xffff, 0xff00ff00}
	for i := range 50 {
		b := someBytes(4, i)
		changes = append(changes, uint32(b[0])<<24|uint32(b[1])<<16|uint32(b[2])<<8|uint32(b[3]))
	}
	for n := range 13 {
		b := someBytes(n, n)
		before := sum.Sum(b)
		for from := range 8 * n {
			for _, change := range changes {
				changed := bytes.Clone(b)
				for i := range min(32, 8*n-from) {
					if change>>i&1 == 1 {
						flip(changed, from+i)
					}
				}
				if !bytes.Equal(changed, b) && sum.Sum(changed) == before {
					t.Errorf("%v and %v have the same Sum", b, changed)
				}
			}
		}
	}
}

// 3.2: the Sum changes by the exclusive or of what each flipped bit does (TestLinear), so no change within 32 bits keeps
// it if what these bits do is independent of each other.
func TestAllChanges(t *testing.T) {
	b := someBytes(20, 11)
	before := sum.Sum(b)
	for from := range 8*len(b) - 31 {
		// found[k] is what some of the bits do together and has the highest bit k.
		var found [32]int
		for i := range 32 {
			changed := bytes.Clone(b)
			flip(changed, from+i)
			x := sum.Sum(changed) ^ before
			for x != 0 && found[bits.Len(uint(x))-1] != 0 {
				x ^= found[bits.Len(uint(x))-1]
			}
			if x == 0 {
				t.Fatalf("a change within the 32 bits from %d on does not change the Sum", from)
			}
			found[bits.Len(uint(x))-1] = x
		}
	}
}

// 3.1, and the ground of TestAllChanges: two changes together change the Sum by the exclusive or of what each does.
func TestLinear(t *testing.T) {
	b := someBytes(20, 11)
	before := sum.Sum(b)
	for i := range 8 * len(b) {
		one := bytes.Clone(b)
		flip(one, i)
		for j := range i {
			two, both := bytes.Clone(b), bytes.Clone(one)
			flip(two, j)
			flip(both, j)
			if sum.Sum(both)^before != (sum.Sum(one)^before)^(sum.Sum(two)^before) {
				t.Fatalf("bits %d and %d", i, j)
			}
		}
	}
}

// R1, R3: arguments stay as they are, and the same call returns the same again.
func TestArguments(t *testing.T) {
	b := someBytes(40, 2)
	kept := bytes.Clone(b)
	s, m := sum.Sum(b), sum.More(77, b)
	if !bytes.Equal(b, kept) {
		t.Errorf("the argument was changed to %v", b)
	}
	if sum.Sum(b) != s || sum.More(77, b) != m {
		t.Error("a second call returned something else")
	}
	if sum.Sum(b[:0]) != 0 {
		t.Error("an earlier call changed the Sum of no bytes")
	}
}
