package label_test

import (
	"math"
	"math/rand"
	"reflect"
	"slices"
	"testing"

	"aquifer/api"
	"aquifer/label"
)

// wantRight checks what Right tells of a lattice, and that it changes nothing.
func wantRight(t *testing.T, l api.Lattice, want bool) {
	t.Helper()
	before := copied(l)
	if label.Right(l) != want {
		t.Errorf("14.2: Right(%s) is not %v", short(l), want)
	}
	if !reflect.DeepEqual(l, before) {
		t.Errorf("R3: Right has changed %s to %s", short(before), short(l))
	}
}

// sound returns the lattice of pairs by the model.
func sound(t *testing.T, l []api.Param) api.Lattice {
	t.Helper()
	got, e := made(l)
	if e != api.OK {
		t.Fatal("no lattice:", l)
	}
	return got
}

// some are lists of pairs of valid lattices.
func some() [][]api.Param {
	return [][]api.Param{
		pairs("a", ""), pairs("low", "high"), chain("c", "b", "a"), pairs("o", "a", "o", "b", "a", "p", "b", "p"),
		pairs("o", "a", "a", "b", "b", "p", "o", "c", "c", "p"), pairs("o", "x", "o", "y", "x", "u", "y", "u", "u", "p"),
		chain(numbered(12)...), pairs("", "x", "x", "\xff"),
	}
}

// 14.2: the example of the chapter.
func TestRightExample(t *testing.T) {
	wantRight(t, api.Lattice{}, false)
	wantRight(t, api.Lattice{Names: []string{}, Le: [][]bool{}, Join: [][]int{}, Meet: [][]int{}}, false)
	wantRight(t, api.Lattice{Low: -1, High: -1}, false)
}

// 14.2: all tables of up to four names, filled as well as they can be.
func TestRightAll(t *testing.T) {
	for n, want := range map[int]int{1: 1, 2: 2, 3: 6, 4: 36} {
		count := 0
		for bits := range 1 << (n * n) {
			l := filled(numbered(n), table(n, func(a, b int) bool { return bits>>(a*n+b)&1 != 0 }))
			valid := right(l)
			wantRight(t, l, valid)
			if valid {
				count++
			}
		}
		if count != want {
			t.Errorf("14.2: of %d names there are %d valid lattices; want %d", n, count, want)
		}
	}
}

// 14.2: any strings can be Names, in ascending order.
func TestRightNames(t *testing.T) {
	for _, c := range []struct {
		names []string
		want  bool
	}{
		{[]string{"a", "b", "c"}, true}, {[]string{"", "b", "c"}, true}, {[]string{"", "\x00", "\x00\x00"}, true},
		{[]string{"A b", "if", "é\n"}, true}, {[]string{"0", "Z", "\xff\xff"}, true}, {[]string{"a", "ab", "b"}, true},
		{[]string{"c", "b", "a"}, false}, {[]string{"a", "c", "b"}, false}, {[]string{"b", "a", "c"}, false},
		{[]string{"a", "a", "b"}, false}, {[]string{"a", "b", "b"}, false}, {[]string{"", "", "a"}, false},
		{[]string{"a", "b", ""}, false}, {[]string{"é", "z", "\xff"}, false},
		{[]string{"a", "b"}, false}, {[]string{"a", "b", "c", "d"}, false}, {nil, false},
	} {
		l := sound(t, chain("a", "b", "c"))
		l.Names = c.names
		wantRight(t, l, c.want)
	}
}

// 14.2: there are at most MaxLabels names.
func TestRightMany(t *testing.T) {
	for n := 1; n <= 15; n++ {
		names := slices.Sorted(slices.Values(numbered(n)))
		wantRight(t, filled(names, table(n, func(a, b int) bool { return a <= b })), n <= 12)
		wantRight(t, filled(names, table(n, func(a, b int) bool { return a >= b })), n <= 12)
	}
}

// 14.2: each place of each table alone holds no other value.
func TestRightValues(t *testing.T) {
	for _, p := range some() {
		l := sound(t, p)
		wantRight(t, l, true)
		n := len(l.Names)
		for a := range n {
			for b := range n {
				l.Le[a][b] = !l.Le[a][b]
				wantRight(t, l, false)
				wantRight(t, filled(l.Names, l.Le), right(filled(l.Names, l.Le)))
				l.Le[a][b] = !l.Le[a][b]
				wantNumber(t, &l, &l.Join[a][b])
				wantNumber(t, &l, &l.Meet[a][b])
			}
		}
		wantNumber(t, &l, &l.Low)
		wantNumber(t, &l, &l.High)
	}
}

// wantNumber checks that a number of a valid lattice cannot be another one.
func wantNumber(t *testing.T, l *api.Lattice, at *int) {
	t.Helper()
	is := *at
	for _, other := range []int{math.MinInt, -2, -1, len(l.Names), len(l.Names) + 1, 99, math.MaxInt} {
		*at = other
		wantRight(t, *l, false)
	}
	for other := range len(l.Names) {
		*at = other
		wantRight(t, *l, other == is)
	}
	*at = is
}

// 14.2: the tables have as many rows as there are names, each of that length.
func TestRightLengths(t *testing.T) {
	for _, p := range some() {
		for i := range len(sound(t, p).Names) {
			for _, change := range []func(*api.Lattice){
				func(l *api.Lattice) { l.Le = resized(l.Le, i) },
				func(l *api.Lattice) { l.Join = resized(l.Join, i) },
				func(l *api.Lattice) { l.Meet = resized(l.Meet, i) },
				func(l *api.Lattice) { l.Le = append(l.Le, l.Le[i]) },
				func(l *api.Lattice) { l.Join = append(l.Join, l.Join[i]) },
				func(l *api.Lattice) { l.Meet = append(l.Meet, l.Meet[i]) },
				func(l *api.Lattice) { l.Le = append(l.Le, nil) },
				func(l *api.Lattice) { l.Join = append(l.Join, nil) },
				func(l *api.Lattice) { l.Meet = append(l.Meet, []int{}) },
				func(l *api.Lattice) { l.Le[i] = resized(l.Le[i], i) },
				func(l *api.Lattice) { l.Join[i] = resized(l.Join[i], i) },
				func(l *api.Lattice) { l.Meet[i] = resized(l.Meet[i], i) },
				func(l *api.Lattice) { l.Le[i] = append(l.Le[i], false) },
				func(l *api.Lattice) { l.Join[i] = append(l.Join[i], 0) },
				func(l *api.Lattice) { l.Meet[i] = append(l.Meet[i], 0) },
				func(l *api.Lattice) { l.Le[i] = nil },
				func(l *api.Lattice) { l.Join[i] = nil },
				func(l *api.Lattice) { l.Meet[i] = nil },
				func(l *api.Lattice) { l.Le = nil },
				func(l *api.Lattice) { l.Join = nil },
				func(l *api.Lattice) { l.Meet = nil },
				func(l *api.Lattice) { l.Names = l.Names[:i] },
				func(l *api.Lattice) { l.Names = append(l.Names, "\xff\xff") },
			} {
				l := sound(t, p)
				change(&l)
				wantRight(t, l, false)
			}
		}
	}
}

// resized returns a slice without one of its elements.
func resized[T any](l []T, at int) []T {
	return slices.Delete(slices.Clone(l), at, at+1)
}

// 14.2: tables that close to a lattice, or whose labels are at most each other, are not valid.
func TestRightOrders(t *testing.T) {
	l := sound(t, chain("a", "b", "c", "d"))
	for _, c := range [][2]int{{0, 2}, {0, 3}, {1, 3}} {
		other := copied(l)
		other.Le[c[0]][c[1]] = false
		wantRight(t, other, false)
	}
	for a := range 4 {
		other := copied(l)
		other.Le[a][a] = false
		wantRight(t, other, false)
	}
	for n := 2; n <= 4; n++ {
		wantRight(t, filled(numbered(n), table(n, func(int, int) bool { return true })), false)
		wantRight(t, filled(numbered(n), table(n, func(int, int) bool { return false })), false)
		wantRight(t, filled(numbered(n), table(n, func(a, b int) bool { return a == b })), false)
	}
}

// 14.2: random lattices, and such with something else in one place.
func TestRightRandom(t *testing.T) {
	r := rand.New(rand.NewSource(3))
	count := map[bool]int{}
	for range 5000 {
		f := someFamily(r)
		l := f.lattice(someNames(r, len(f)))
		wantRight(t, l, true)
		a, b := r.Intn(len(f)), r.Intn(len(f))
		switch r.Intn(4) {
		case 0:
			l.Le[a][b] = !l.Le[a][b]
		case 1:
			l.Join[a][b] = r.Intn(len(f)+2) - 1
		case 2:
			l.Meet[a][b] = r.Intn(len(f)+2) - 1
		case 3:
			l.Le[a][b] = !l.Le[a][b]
			l = filled(l.Names, l.Le)
		}
		count[right(l)]++
		wantRight(t, l, right(l))
	}
	if count[true] < 300 || count[false] < 300 {
		t.Error("too few of one kind:", count)
	}
}
