package label_test

import (
	"math/rand"
	"testing"

	"aquifer/api"
	"aquifer/label"
)

// wantLaws checks 14.3 of a lattice.
func wantLaws(t *testing.T, l api.Lattice) {
	t.Helper()
	n := len(l.Names)
	for a := range n {
		for b := range n {
			if l.Join[a][b] != l.Join[b][a] || l.Meet[a][b] != l.Meet[b][a] {
				t.Errorf("14.3: %d and %d do not commute in %v", a, b, l)
			}
			if l.Le[a][b] != (l.Join[a][b] == b) {
				t.Errorf("14.3: Le of %d and %d is not what their Join says in %v", a, b, l)
			}
			for c := range n {
				if l.Join[l.Join[a][b]][c] != l.Join[a][l.Join[b][c]] || l.Meet[l.Meet[a][b]][c] != l.Meet[a][l.Meet[b][c]] {
					t.Errorf("14.3: %d, %d and %d do not associate in %v", a, b, c, l)
				}
			}
		}
	}
}

// 14.3: Join and Meet are commutative and associative, and the Join tells the order, in lattices whose tables are known.
func TestLaws(t *testing.T) {
	r := rand.New(rand.NewSource(4))
	sizes := map[int]int{}
	for range 5000 {
		f := someFamily(r)
		names := someNames(r, len(f))
		l := f.list(r, names)
		wantMade(t, l, f.lattice(names), api.OK)
		got, _ := label.Make(l)
		wantLaws(t, got)
		sizes[len(f)]++
	}
	for n := 1; n <= 12; n++ {
		if sizes[n] < 20 {
			t.Error("too few lattices of one size:", sizes)
		}
	}
}

// 14.3: the same of sources.
func TestLawsRead(t *testing.T) {
	for _, s := range []string{
		"labels a;", "labels low<high;", "labels bot<a<top;bot<b<top;bot<c;c<top;", "labels a<b<c<d<e<f<g<h<i<j<k<l;",
		"labels o<x<u<p;o<y<u;", "labels o<a<b<p;o<c<p;",
	} {
		l, e, at := label.Read(s)
		if e != api.OK || at != 0 || len(l.Names) == 0 {
			t.Errorf("14.2: Read(%q) = %v %d %d", s, l, e, at)
		}
		wantLaws(t, l)
	}
}
