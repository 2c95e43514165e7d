package face_test

import (
	"fmt"
	"math/rand"
	"slices"
	"testing"

	"aquifer/face"
)

// wantSets checks Union and Within of two lists against the model.
func wantSets(t *testing.T, a, b []string) {
	t.Helper()
	beforeA, beforeB := slices.Clone(a), slices.Clone(b)
	if got, want := face.Union(a, b), united(a, b); !slices.Equal(got, want) {
		t.Fatalf("15.2: Union(%.200q, %.200q) = %.200q; want %.200q", a, b, got, want)
	}
	within := true
	for _, s := range a {
		within = within && slices.Contains(b, s)
	}
	if face.Within(a, b) != within {
		t.Fatalf("15.2: Within(%.200q, %.200q) is not %v", a, b, within)
	}
	if !slices.Equal(a, beforeA) || !slices.Equal(b, beforeB) {
		t.Fatalf("R3: %.200q and %.200q are changed to %.200q and %.200q", beforeA, beforeB, a, b)
	}
}

// 15.2: the examples of the chapter.
func TestSetsExamples(t *testing.T) {
	if got := face.Union([]string{"b", "a", "b"}, []string{"c", "a"}); !slices.Equal(got, []string{"a", "b", "c"}) {
		t.Errorf("15.2: %q", got)
	}
	if !face.Within([]string{"a", "a"}, []string{"c", "a"}) {
		t.Error("15.2: a, a is not Within c, a")
	}
	for _, l := range [][]string{nil, {}, {""}, {"b", "a"}} {
		if !face.Within(nil, l) || !face.Within([]string{}, l) {
			t.Errorf("15.2: the empty list is not Within %q", l)
		}
	}
}

// 15.2: Union by bytes, and Within of what is only alike.
func TestSetsWritten(t *testing.T) {
	got := face.Union([]string{"é", "a", "Z", "ab"}, []string{"\xff", "", "a\x00", "a", "z"})
	if want := []string{"", "Z", "a", "a\x00", "ab", "z", "é", "\xff"}; !slices.Equal(got, want) {
		t.Errorf("15.2: %q; want %q", got, want)
	}
	for _, c := range []struct {
		a, b []string
		want bool
	}{
		{[]string{""}, nil, false}, {[]string{""}, []string{""}, true}, {[]string{""}, []string{"a"}, false}, {[]string{"a"}, []string{"A", "ab", ""}, false},
		{[]string{"a", "b"}, []string{"a"}, false}, {[]string{"b", "a"}, []string{"a"}, false}, {[]string{"c", "a"}, []string{"c", "b", "a"}, true},
		{[]string{"a"}, []string{"b", "b", "a", "b"}, true}, {[]string{"x"}, []string{"a", "b"}, false}, {[]string{"a", "x", "a"}, []string{"b", "a"}, false},
	} {
		if face.Within(c.a, c.b) != c.want {
			t.Errorf("15.2: Within(%q, %q) is not %v", c.a, c.b, c.want)
		}
	}
}

// 15.2: all pairs of lists of up to four of three strings, and of up to three of four.
func TestSetsAll(t *testing.T) {
	for _, lists := range [][][]string{rows(4, "", "a", "b"), rows(3, "a", "b", "ab", "\xff")} {
		for _, a := range lists {
			for _, b := range lists {
				wantSets(t, a, b)
			}
		}
	}
}

// 15.2: random lists.
func TestSetsRandom(t *testing.T) {
	r := rand.New(rand.NewSource(4))
	for range 2000 {
		n := 1 + r.Intn(60)
		text := func() string { return fmt.Sprint(r.Intn(n)) }
		a, b := some(r, 40, text), some(r, 80, text)
		wantSets(t, a, b)
		wantSets(t, a, append(slices.Clone(a), b...))
		wantSets(t, a, a)
	}
}

// R1: long lists end soon.
func TestSetsLong(t *testing.T) {
	const n = 200000
	var a, b, same []string
	for i := range n {
		a = append(a, fmt.Sprintf("%06d", n-i))
		b = append(b, fmt.Sprintf("%06d", i))
		same = append(same, "x")
	}
	if l := face.Union(a, b); len(l) != n+1 || !slices.IsSorted(l) {
		t.Errorf("15.2: %d strings", len(l))
	}
	if l := face.Union(same, same); !slices.Equal(l, []string{"x"}) {
		t.Errorf("15.2: %d strings", len(l))
	}
	if face.Within(a, b) || !face.Within(a[1:], b) || !face.Within(same, same) || face.Within(same, a) {
		t.Error("15.2: Within of long lists")
	}
}

// R3: writing into a union, up to its capacity, changes neither list, nor another union.
func TestUnionNewMemory(t *testing.T) {
	for _, c := range [][2][]string{{{"a", "b"}, nil}, {nil, {"a", "b"}}, {{"a"}, {"b"}}, {{"a", "b"}, {"a", "b"}}, {{"b", "a", "a"}, {"b"}}} {
		a, b := slices.Clone(c[0]), slices.Clone(c[1])
		first, other := face.Union(a, b), face.Union(a, b)
		spoil(first)
		if !slices.Equal(a, c[0]) || !slices.Equal(b, c[1]) || !slices.Equal(other, []string{"a", "b"}) {
			t.Errorf("R3: %q, %q or %q is changed", a, b, other)
		}
		spoil(a)
		spoil(b)
		if !slices.Equal(other, []string{"a", "b"}) {
			t.Errorf("R3: Union keeps a list: %q", other)
		}
	}
}
