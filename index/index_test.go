package index_test

import (
	"cmp"
	"fmt"
	"hash/crc32"
	"math"
	"math/rand"
	"slices"
	"strings"
	"testing"

	"aquifer/api"
	"aquifer/index"
)

// numbers are numbers of buckets: those that are clamped, the edges, and such as divide the Sums in different ways.
var numbers = []int{math.MinInt, -1025, -3, -1, 0, 1, 2, 3, 7, 64, 1000, 1023, 1024, 1025, 5000, math.MaxInt}

// ascending are keys in the order of their bytes: a beginning ahead of what goes on, bytes without regard to letters.
var ascending = []string{
	"", "\x00", "\x00\x00", "\x00a", "\x01", " ", "-1", "0", "1", "10", "2", "A", "Z", "a", "a\x00", "a\x00b", "aa", "ab",
	"b", "\x7f", "\x80", "\xc3", "é", "é\x00", "日", "\xff", "\xff\x00", "\xff\xff",
}

// alike are keys with the same Sum, which are in one bucket whatever the number of buckets.
var alike = [2]string{"plumless", "buckeroo"}

// model is a list of pairs, in the order in which their keys came.
type model []api.Pair

func (m *model) at(key string) int {
	return slices.IndexFunc(*m, func(p api.Pair) bool { return p.Key == key })
}

func (m *model) put(key, value string) {
	if at := m.at(key); at >= 0 {
		(*m)[at].Value = value
		return
	}
	*m = append(*m, api.Pair{Key: key, Value: value})
}

func (m *model) get(key string) (string, bool) {
	at := m.at(key)
	if at < 0 {
		return "", false
	}
	return (*m)[at].Value, true
}

func (m *model) del(key string) bool {
	at := m.at(key)
	if at < 0 {
		return false
	}
	*m = append(append(model{}, (*m)[:at]...), (*m)[at+1:]...)
	return true
}

func (m *model) all() []api.Pair {
	sorted := slices.Clone(*m)
	slices.SortFunc(sorted, func(a, b api.Pair) int { return cmp.Compare(a.Key, b.Key) })
	return sorted
}

// short returns how something is shown, or the beginning of that.
func short(v any) string { return fmt.Sprintf("%.300s", fmt.Sprintf("%q", v)) }

func wantGet(t *testing.T, what string, x *index.Index, key, value string, found bool) {
	t.Helper()
	if v, ok := x.Get(key); v != value || ok != found {
		t.Errorf("%s: Get(%q) = %q, %v; want %q, %v", what, key, v, ok, value, found)
	}
}

func wantDel(t *testing.T, what string, x *index.Index, key string, existed bool) {
	t.Helper()
	if got := x.Del(key); got != existed {
		t.Errorf("%s: Del(%q) = %v; want %v", what, key, got, existed)
	}
}

// wantAll checks All and Len against keys and values that stand in turn.
func wantAll(t *testing.T, what string, x *index.Index, texts ...string) {
	t.Helper()
	var want []api.Pair
	for kv := range slices.Chunk(texts, 2) {
		want = append(want, api.Pair{Key: kv[0], Value: kv[1]})
	}
	if got := x.All(); !slices.Equal(got, want) {
		t.Errorf("%s: All() = %s; want %s", what, short(got), short(want))
	}
	if got := x.Len(); got != len(want) {
		t.Errorf("%s: Len() = %d; want %d", what, got, len(want))
	}
}

// wantSame checks all that can be asked of an index against a list of pairs.
func wantSame(t *testing.T, what string, x *index.Index, m *model, keys []string) {
	t.Helper()
	if got, want := x.All(), m.all(); !slices.Equal(got, want) {
		t.Fatalf("%s: All() = %s; want %s", what, short(got), short(want))
	}
	if got := x.Len(); got != len(*m) {
		t.Fatalf("%s: Len() = %d; want %d", what, got, len(*m))
	}
	for _, k := range keys {
		v, ok := x.Get(k)
		if value, found := m.get(k); v != value || ok != found {
			t.Fatalf("%s: Get(%q) = %q, %v; want %q, %v", what, k, v, ok, value, found)
		}
	}
}

// 9.1: an index that New returns is empty, whatever the number.
func TestNew(t *testing.T) {
	for _, n := range numbers {
		x := index.New(n)
		if x == nil {
			t.Fatalf("9.1: New(%d) = nil", n)
		}
		what := fmt.Sprint("9.1: new, buckets ", n)
		wantAll(t, what, x)
		for _, k := range ascending {
			wantGet(t, what, x, k, "", false)
			wantDel(t, what, x, k, false)
		}
		wantAll(t, what+", after Del", x)
	}
}

// 9.1: an index with -3 buckets returns the same results as one with 64.
func TestNewExample(t *testing.T) {
	x, y := index.New(-3), index.New(64)
	same := func() {
		t.Helper()
		if a, b := x.All(), y.All(); !slices.Equal(a, b) || x.Len() != y.Len() {
			t.Fatalf("9.1: -3 buckets: %s, %d; 64: %s, %d", short(a), x.Len(), short(b), y.Len())
		}
		for _, k := range ascending {
			v, ok := x.Get(k)
			if w, is := y.Get(k); v != w || ok != is {
				t.Fatalf("9.1: Get(%q): -3 buckets: %q, %v; 64: %q, %v", k, v, ok, w, is)
			}
		}
	}
	same()
	for i, k := range ascending {
		x.Put(k, fmt.Sprint(i))
		y.Put(k, fmt.Sprint(i))
		same()
	}
	if x.Len() != len(ascending) {
		t.Errorf("9.1: Len() = %d; want %d", x.Len(), len(ascending))
	}
	for _, k := range append([]string{"none"}, ascending...) {
		if a, b := x.Del(k), y.Del(k); a != b {
			t.Errorf("9.1: Del(%q): -3 buckets: %v; 64: %v", k, a, b)
		}
		same()
	}
}

// 9.1: Put sets the value of a key, also of one that has a value, and of no other.
func TestPut(t *testing.T) {
	for _, n := range numbers {
		what := fmt.Sprint("9.1: Put, buckets ", n)
		x := index.New(n)
		x.Put("a", "1")
		wantAll(t, what, x, "a", "1")
		x.Put("a", "2")
		wantGet(t, what, x, "a", "2", true)
		wantAll(t, what, x, "a", "2")
		x.Put("b", "1")
		x.Put("c", "")
		x.Put("b", "3")
		wantAll(t, what, x, "a", "2", "b", "3", "c", "")
		x.Put("a", "")
		x.Put("c", "c")
		wantAll(t, what, x, "a", "", "b", "3", "c", "c")
		x.Put("a", "2")
		x.Put("a", "2")
		wantAll(t, what, x, "a", "2", "b", "3", "c", "c")
	}
}

// 9.1: Get returns the value and true, or false; a value may be empty, and so may a key.
func TestGet(t *testing.T) {
	for _, n := range numbers {
		what := fmt.Sprint("9.1: Get, buckets ", n)
		x := index.New(n)
		wantGet(t, what+", empty", x, "", "", false)
		x.Put("", "")
		wantGet(t, what, x, "", "", true)
		wantGet(t, what, x, "a", "", false)
		x.Put("a", "1")
		wantGet(t, what, x, "", "", true)
		wantGet(t, what, x, "a", "1", true)
		for _, k := range []string{"b", "A", "aa", "a\x00", "\x00", "1", " a", "a "} {
			wantGet(t, what, x, k, "", false)
		}
		x.Put("", "e")
		wantGet(t, what, x, "", "e", true)
		wantGet(t, what, x, "a", "1", true)
		wantAll(t, what+", after Get", x, "", "e", "a", "1")
	}
}

// 9.1: Del deletes a key and no other, and reports whether it existed.
func TestDel(t *testing.T) {
	for _, n := range numbers {
		what := fmt.Sprint("9.1: Del, buckets ", n)
		x := index.New(n)
		wantDel(t, what, x, "", false)
		x.Put("", "")
		x.Put("a", "1")
		x.Put("b", "2")
		x.Put("c", "3")
		wantDel(t, what, x, "d", false)
		wantDel(t, what, x, "B", false)
		wantAll(t, what, x, "", "", "a", "1", "b", "2", "c", "3")
		wantDel(t, what, x, "b", true)
		wantGet(t, what, x, "b", "", false)
		wantDel(t, what, x, "b", false)
		wantAll(t, what, x, "", "", "a", "1", "c", "3")
		wantDel(t, what, x, "", true)
		wantDel(t, what, x, "", false)
		wantAll(t, what, x, "a", "1", "c", "3")
		x.Put("b", "4")
		x.Put("b", "5")
		wantDel(t, what+", put twice", x, "b", true)
		wantDel(t, what+", put twice", x, "b", false)
		wantDel(t, what, x, "c", true)
		wantDel(t, what, x, "a", true)
		wantAll(t, what+", all gone", x)
		x.Put("a", "6")
		wantAll(t, what+", put again", x, "a", "6")
	}
}

// 9.1: All returns the pairs by ascending keys, in whatever order these came.
func TestAll(t *testing.T) {
	for _, n := range numbers {
		what := fmt.Sprint("9.1: All, buckets ", n)
		x := index.New(n)
		x.Put("a", "1")
		x.Put("", "2")
		wantAll(t, what, x, "", "2", "a", "1")

		var want []string
		for i, k := range ascending {
			want = append(want, k, fmt.Sprint(i))
		}
		for seed := range 10 {
			x := index.New(n)
			for _, i := range rand.New(rand.NewSource(int64(seed))).Perm(len(ascending)) {
				x.Put(ascending[i], fmt.Sprint(i))
			}
			wantAll(t, what, x, want...)
		}
	}
}

// 9.1: Len is the number of keys: it grows by a new key, and by no other, and goes down by one that existed.
func TestLen(t *testing.T) {
	for _, n := range numbers {
		x := index.New(n)
		want := func(what string, keys int) {
			t.Helper()
			if got := x.Len(); got != keys {
				t.Errorf("9.1: Len, buckets %d, %s: %d; want %d", n, what, got, keys)
			}
		}
		want("empty", 0)
		x.Put("a", "1")
		want("one", 1)
		x.Put("a", "2")
		want("the same again", 1)
		x.Get("b")
		x.Del("b")
		want("after a key that is not there", 1)
		for i := range 3000 {
			x.Put(fmt.Sprint("k", i), "v")
			want("more", i+2)
		}
		for i := range 3000 {
			x.Del(fmt.Sprint("k", i))
			want("less", 3000-i)
		}
		x.Del("a")
		want("none left", 0)
		x.Del("a")
		want("none left", 0)
	}
}

// 9.1: keys of one bucket are told apart by all of their bytes, even if their Sums are the same.
func TestAlike(t *testing.T) {
	if a, b := crc32.ChecksumIEEE([]byte(alike[0])), crc32.ChecksumIEEE([]byte(alike[1])); a != b {
		t.Fatalf("the Sums of %q are %d and %d", alike, a, b)
	}
	for _, n := range numbers {
		for i := range 2 {
			what := fmt.Sprintf("9.1: the same Sum, buckets %d, %q first", n, alike[i])
			k, l := alike[i], alike[1-i]
			x := index.New(n)
			x.Put(k, "1")
			wantGet(t, what, x, l, "", false)
			wantDel(t, what, x, l, false)
			x.Put(l, "2")
			wantGet(t, what, x, k, "1", true)
			wantGet(t, what, x, l, "2", true)
			wantAll(t, what, x, "buckeroo", fmt.Sprint(2-i), "plumless", fmt.Sprint(1+i))
			wantDel(t, what, x, k, true)
			wantAll(t, what, x, l, "2")
		}
	}
}

// 9.1: long keys that differ in one byte only, wherever it is.
func TestLongKeys(t *testing.T) {
	const length = 200
	for _, n := range []int{1, 5, 1024} {
		x := index.New(n)
		base := strings.Repeat("x", length)
		x.Put(base, "base")
		for i := range length {
			k := base[:i] + "y" + base[i+1:]
			wantGet(t, "9.1: long keys", x, k, "", false)
			x.Put(k, fmt.Sprint(i))
		}
		for i := range length {
			wantGet(t, "9.1: long keys", x, base[:i]+"y"+base[i+1:], fmt.Sprint(i), true)
			wantGet(t, "9.1: long keys", x, base[:i], "", false)
		}
		wantGet(t, "9.1: long keys", x, base, "base", true)
		if x.Len() != length+1 {
			t.Errorf("9.1: long keys: Len() = %d; want %d", x.Len(), length+1)
		}
	}
}

// 9.1: methods of a nil index return zero values; R1: none panics.
func TestNil(t *testing.T) {
	var x *index.Index
	for range 2 {
		wantGet(t, "9.1: nil", x, "a", "", false)
		wantGet(t, "9.1: nil", x, "", "", false)
		wantDel(t, "9.1: nil", x, "a", false)
		wantDel(t, "9.1: nil", x, "", false)
		wantAll(t, "9.1: nil", x)
		x.Put("a", "1")
		x.Put("", "")
	}
}

// R1, 9.2: an index that New did not make doesn't panic, and is one with some number of buckets, whichever call is the first.
func TestZero(t *testing.T) {
	wantAll(t, "R1: zero", &index.Index{})
	wantGet(t, "R1: zero", &index.Index{}, "a", "", false)
	wantDel(t, "R1: zero", &index.Index{}, "a", false)
	var x index.Index
	x.Put("b", "1")
	x.Put("", "2")
	x.Put("b", "3")
	wantAll(t, "R1: zero", &x, "", "2", "b", "3")
	wantGet(t, "R1: zero", &x, "b", "3", true)
	wantDel(t, "R1: zero", &x, "b", true)
	wantAll(t, "R1: zero", &x, "", "2")
	wantAll(t, "R5: another zero", &index.Index{})
}

// R3: writing into a result of All, or appending to it, changes neither the index nor another result.
func TestResults(t *testing.T) {
	for _, n := range numbers {
		what := fmt.Sprint("R3: buckets ", n)
		x := index.New(n)
		for i := range 5 {
			x.Put(fmt.Sprint("k", i), fmt.Sprint(i))
		}
		x.Del("k4")
		first, second := x.All(), x.All()
		want := slices.Clone(second)
		for i := range first {
			first[i] = api.Pair{Key: "spoilt", Value: "spoilt"}
		}
		for range 10 {
			first = append(first[:1], first...)
		}
		for i := range first[:cap(first)] {
			first[:cap(first)][i] = api.Pair{Key: "spoilt", Value: "spoilt"}
		}
		if !slices.Equal(second, want) {
			t.Errorf("%s: another result is %s; want %s", what, short(second), short(want))
		}
		wantAll(t, what, x, "k0", "0", "k1", "1", "k2", "2", "k3", "3")
		x.Put("k1", "new")
		x.Put("k9", "9")
		x.Del("k0")
		if !slices.Equal(second, want) {
			t.Errorf("%s: a result after later calls is %s; want %s", what, short(second), short(want))
		}
		spare := second[:cap(second)]
		for i := len(second); i < len(spare); i++ {
			spare[i] = api.Pair{Key: "spoilt", Value: "spoilt"}
		}
		wantAll(t, what, x, "k1", "new", "k2", "2", "k3", "3", "k9", "9")
	}
}

// R5: two indexes do not affect each other, and the same calls on both return the same results.
func TestTwo(t *testing.T) {
	for _, n := range numbers {
		what := fmt.Sprint("R5: buckets ", n)
		x, y := index.New(n), index.New(n)
		x.Put("a", "1")
		wantAll(t, what, y)
		y.Put("a", "2")
		y.Put("b", "3")
		wantAll(t, what, x, "a", "1")
		wantDel(t, what, x, "b", false)
		wantDel(t, what, x, "a", true)
		wantAll(t, what, y, "a", "2", "b", "3")
		wantAll(t, what, x)
		wantAll(t, what, index.New(n))
	}
}

// step does one call on an index and on a list of pairs: put one of two values, or delete, one of the keys.
func step(t *testing.T, what string, x *index.Index, m *model, keys []string, which int) {
	t.Helper()
	k, value := keys[which/3], ""
	switch which % 3 {
	case 0:
		got, want := x.Del(k), m.del(k)
		if got != want {
			t.Fatalf("%s: Del(%q) = %v; want %v", what, k, got, want)
		}
		return
	case 1:
		value = "v"
	}
	x.Put(k, value)
	m.put(k, value)
}

// 9.2: all rows of up to five calls on three keys, of which two have the same Sum, against a list of pairs.
func TestListRows(t *testing.T) {
	keys := []string{"", alike[0], alike[1]}
	steps := 3 * len(keys)
	for _, n := range []int{-3, 1, 2, 64} {
		for length, rows := 0, 1; length <= 5; length, rows = length+1, rows*steps {
			for row := range rows {
				what := fmt.Sprintf("9.2: buckets %d, row %d of %d calls", n, row, length)
				x, m := index.New(n), &model{}
				for rest, i := row, 0; i < length; rest, i = rest/steps, i+1 {
					step(t, what, x, m, keys, rest%steps)
				}
				wantSame(t, what, x, m, keys)
			}
		}
	}
}

// 9.2: long rows of calls on many keys, against a list of pairs after each of them.
func TestListLong(t *testing.T) {
	keys := append([]string{alike[0], alike[1], strings.Repeat("long", 1000)}, ascending...)
	for _, n := range numbers {
		r := rand.New(rand.NewSource(int64(n)))
		x, m := index.New(n), &model{}
		for i := range 1500 {
			step(t, fmt.Sprintf("9.2: buckets %d, call %d", n, i), x, m, keys, r.Intn(3*len(keys)))
			wantSame(t, fmt.Sprintf("9.2: buckets %d, after call %d", n, i), x, m, keys[:5])
		}
		wantSame(t, fmt.Sprint("9.2: buckets ", n), x, m, keys)
	}
}
