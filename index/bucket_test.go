package index

import (
	"fmt"
	"hash/crc32"
	"math"
	"testing"
)

// 9.1: the number of buckets is clamped to the range from 1 to 1024. No result tells it, so it is asked inside.
func TestBuckets(t *testing.T) {
	for _, c := range []struct{ number, buckets int }{
		{math.MinInt, 1}, {-3, 1}, {-1, 1}, {0, 1}, {1, 1}, {2, 2}, {3, 3}, {64, 64}, {1000, 1000},
		{1023, 1023}, {1024, 1024}, {1025, 1024}, {5000, 1024}, {math.MaxInt, 1024},
	} {
		if got := len(New(c.number).buckets); got != c.buckets {
			t.Errorf("9.1: New(%d) has %d buckets; want %d", c.number, got, c.buckets)
		}
	}
}

// 9.1: a key is in the bucket whose number is its Sum modulo the number of buckets, and in no other.
func TestPlace(t *testing.T) {
	for _, n := range []int{1, 2, 3, 64, 1000, 1024} {
		x := New(n)
		for i := range 2000 {
			x.Put(fmt.Sprint("k", i), "1")
			x.Put(fmt.Sprint("k", i), "2")
		}
		x.Put("", "2")
		for i := 0; i < 2000; i += 3 {
			x.Del(fmt.Sprint("k", i))
		}
		entries := 0
		for number, l := range x.buckets {
			for _, e := range l {
				if want := int(crc32.ChecksumIEEE([]byte(e.key)) % uint32(n)); number != want {
					t.Errorf("9.1: of %d buckets %q is in number %d; want %d", n, e.key, number, want)
				}
				entries++
			}
		}
		if want := 1 + 2000 - 667; entries != want {
			t.Errorf("9.1: %d buckets hold %d entries; want %d", n, entries, want)
		}
	}
}

// 9.1: a deleted entry is not kept behind those that are left.
func TestDeletedIsGone(t *testing.T) {
	x := New(1)
	for i := range 9 {
		x.Put(fmt.Sprint(i), "v")
	}
	for i := range 9 {
		x.Del(fmt.Sprint(i))
		l := x.buckets[0]
		for _, e := range l[len(l):cap(l)] {
			if e.key != "" || e.value != "" {
				t.Errorf("a deleted entry is kept: %q", e)
			}
		}
	}
}
