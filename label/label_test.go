package label_test

import (
	"fmt"
	"math/rand"
	"reflect"
	"slices"
	"strings"
	"testing"

	"aquifer/api"
	"aquifer/label"
	"aquifer/parse"
)

// wantMade checks what Make returns of a list, and that this is valid or empty.
func wantMade(t *testing.T, l []api.Param, want api.Lattice, e api.Errno) {
	t.Helper()
	before := slices.Clone(l)
	got, err := label.Make(l)
	if err != e || !reflect.DeepEqual(got, want) {
		t.Errorf("14.1: Make(%s) = %s %d; want %s %d", short(l), short(got), err, short(want), e)
	}
	if label.Right(got) != (e == api.OK) {
		t.Errorf("14.2: Right of Make(%s) is %v", short(l), e != api.OK)
	}
	if !slices.Equal(l, before) {
		t.Errorf("R3: Make has changed %s to %s", short(before), short(l))
	}
}

func wantError(t *testing.T, e api.Errno, l []api.Param) {
	t.Helper()
	wantMade(t, l, api.Lattice{}, e)
}

// wantLike checks Make against the model.
func wantLike(t *testing.T, l []api.Param) api.Errno {
	t.Helper()
	want, e := made(l)
	wantMade(t, l, want, e)
	return e
}

// 14.1: the examples of the chapter.
func TestMakeExamples(t *testing.T) {
	twelve := chain(numbered(12)...)
	if got, e := label.Make(twelve); e != api.OK || len(got.Names) != 12 {
		t.Errorf("14.1: a chain of twelve: %v %d", got, e)
	}
	wantError(t, api.ErrMany, chain(numbered(13)...))
	wantError(t, api.ErrOrder, pairs("a", "", "b", ""))
}

// 14.1: lattices that are written out.
func TestMakeWritten(t *testing.T) {
	const T, F = true, false
	wantMade(t, pairs("a", ""), api.Lattice{
		Names: []string{"a"}, Le: [][]bool{{T}}, Join: [][]int{{0}}, Meet: [][]int{{0}},
	}, api.OK)
	wantMade(t, pairs("low", "high"), api.Lattice{
		Names: []string{"high", "low"}, Low: 1, High: 0,
		Le:   [][]bool{{T, F}, {T, T}},
		Join: [][]int{{0, 0}, {0, 1}},
		Meet: [][]int{{0, 1}, {1, 1}},
	}, api.OK)
	wantMade(t, pairs("bot", "a", "a", "top", "bot", "b", "b", "top"), api.Lattice{
		Names: []string{"a", "b", "bot", "top"}, Low: 2, High: 3,
		Le:   [][]bool{{T, F, F, T}, {F, T, F, T}, {T, T, T, T}, {F, F, F, T}},
		Join: [][]int{{0, 3, 0, 3}, {3, 1, 1, 3}, {0, 1, 2, 3}, {3, 3, 3, 3}},
		Meet: [][]int{{0, 2, 2, 0}, {2, 1, 2, 1}, {2, 2, 2, 2}, {0, 1, 2, 3}},
	}, api.OK)
}

// 14.1: Names ascend by bytes, have no duplicates, and an empty Label is none of them; an empty Name is one.
func TestMakeNames(t *testing.T) {
	for _, c := range []struct {
		l    []api.Param
		want []string
	}{
		{pairs("b", "a", "b", "a", "a", "", "b", ""), []string{"a", "b"}},
		{pairs("x", "", "x", "", "x", "x"), []string{"x"}},
		{pairs("", ""), []string{""}},
		{pairs("", "", "", ""), []string{""}},
		{pairs("", "x"), []string{"", "x"}},
		{pairs("x", "", "", "x"), []string{"", "x"}},
		{chain("b", "a", "ab", "B", "\xff", "b0", "é", "1"), []string{"1", "B", "a", "ab", "b", "b0", "é", "\xff"}},
		{chain("a\x00", "a", "if", "a b", strings.Repeat("z", 99)), []string{"a", "a\x00", "a b", "if", strings.Repeat("z", 99)}},
	} {
		got, e := label.Make(c.l)
		if e != api.OK || !slices.Equal(got.Names, c.want) {
			t.Errorf("14.1: Names of Make(%v) are %q %d; want %q", c.l, got.Names, e, c.want)
		}
		wantLike(t, c.l)
	}
	// An empty Name is a label, an empty Label is not: with it, nothing is at most anything.
	wantError(t, api.ErrOrder, pairs("x", "", "", ""))
	wantError(t, api.ErrOrder, pairs("x", "y", "z", "", "z", "y"))
}

// 14.1: a chain in any order of its pairs: Le follows by way of all labels between.
func TestMakeChains(t *testing.T) {
	r := rand.New(rand.NewSource(1))
	for n := 2; n <= 12; n++ {
		for range 50 {
			names := numbered(n)
			r.Shuffle(n, func(i, j int) { names[i], names[j] = names[j], names[i] })
			l := chain(names...)
			r.Shuffle(len(l), func(i, j int) { l[i], l[j] = l[j], l[i] })
			got, e := label.Make(l)
			if e != api.OK {
				t.Fatalf("14.1: Make(%v) = %d", l, e)
			}
			for i, a := range names {
				for j, b := range names {
					if got.Le[label.Place(got, a)][label.Place(got, b)] != (i <= j) {
						t.Errorf("14.1: Le of %s and %s in Make(%v) is %v", a, b, l, i > j)
					}
				}
			}
			wantLike(t, l)
		}
	}
}

// 14.1: ErrOrder without names, ahead of ErrMany.
func TestMakeEmpty(t *testing.T) {
	wantError(t, api.ErrOrder, nil)
	wantError(t, api.ErrOrder, []api.Param{})
}

// 14.1: ErrMany of more than twelve names, however often each one stands there, ahead of the other ErrOrder.
func TestMakeMany(t *testing.T) {
	twelve, thirteen := numbered(12), numbered(13)
	circle := append(chain(thirteen...), pairs("n12", "n0")...)
	wantError(t, api.ErrMany, circle)
	wantError(t, api.ErrMany, append(circle, circle...))
	wantError(t, api.ErrMany, append(pairs("a", "b", "b", "a"), circle...))
	wantError(t, api.ErrOrder, append(chain(twelve...), pairs("n11", "n0")...))
	wantError(t, api.ErrMany, append(chain(twelve...), pairs("other", "")...))
	wantError(t, api.ErrMany, append(chain(twelve...), pairs("", "")...))
	wantError(t, api.ErrMany, append(chain(twelve...), pairs("", "n0")...))
	wantError(t, api.ErrMany, append(chain(twelve[1:]...), pairs("other", "another")...))
	wantError(t, api.ErrOrder, append(chain(twelve[1:]...), pairs("other", "")...))
	for _, names := range [][]string{twelve, thirteen} {
		var alone []api.Param
		for _, name := range names {
			alone = append(alone, api.Param{Name: name})
		}
		e := api.ErrOrder
		if len(names) > 12 {
			e = api.ErrMany
		}
		wantError(t, e, alone)
	}
	if got, e := label.Make(append(chain(twelve...), append(chain(twelve...), pairs("n3", "", "n3", "n3")...)...)); e != api.OK || len(got.Names) != 12 {
		t.Errorf("14.1: twelve names, each of them more than once: %v %d", got, e)
	}
}

// 14.1: ErrOrder of two different labels that are at most each other, or have no Join or no Meet.
func TestMakeOrder(t *testing.T) {
	wantError(t, api.ErrOrder, pairs("a", "b", "b", "a"))
	wantError(t, api.ErrOrder, pairs("a", "b", "b", "c", "c", "a"))
	wantError(t, api.ErrOrder, pairs("a", "b", "b", "c", "c", "d", "c", "b"))
	wantError(t, api.ErrOrder, pairs("o", "a", "o", "b"))
	wantError(t, api.ErrOrder, pairs("a", "p", "b", "p"))
	wantError(t, api.ErrOrder, pairs("a", "b", "c", "d"))
	// All have labels above and below both, but a and b no least one above, and c and d no greatest one below.
	wantError(t, api.ErrOrder, pairs("o", "a", "o", "b", "a", "c", "a", "d", "b", "c", "b", "d", "c", "p", "d", "p"))
	for _, l := range [][]api.Param{
		pairs("a", "a"), pairs("", ""), pairs("a", "b", "a", "a", "b", "b"),
		pairs("o", "a", "o", "b", "a", "m", "b", "m", "m", "c", "m", "d", "c", "p", "d", "p"),
		pairs("o", "a", "o", "b", "o", "c", "a", "p", "b", "p", "c", "p"),
		pairs("o", "a", "a", "b", "b", "p", "o", "c", "c", "p"),
	} {
		if e := wantLike(t, l); e != api.OK {
			t.Errorf("14.1: Make(%v) = %d", l, e)
		}
	}
}

// 14.1: all relations of up to four names. Of n names there are 1, 2, 6 and 36 lattices.
func TestMakeAll(t *testing.T) {
	for n, want := range map[int]int{1: 1, 2: 2, 3: 6, 4: 36} {
		names := numbered(n)
		lattices := map[string]int{}
		for bits := range 1 << (n * n) {
			var l []api.Param
			for i := range n * n {
				if bits>>i&1 != 0 {
					l = append(l, api.Param{Name: names[i/n], Label: names[i%n], At: i})
				}
			}
			for _, name := range names {
				l = append(l, api.Param{Name: name})
			}
			if e := wantLike(t, l); e == api.OK {
				got, _ := label.Make(l)
				lattices[fmt.Sprint(got)]++
			}
		}
		if len(lattices) != want {
			t.Errorf("14.1: of %d names there are %d lattices; want %d", n, len(lattices), want)
		}
	}
}

// 14.1: random lists, most of them no lattices.
func TestMakeRandom(t *testing.T) {
	r := rand.New(rand.NewSource(2))
	count := map[api.Errno]int{}
	for range 20000 {
		some := append(numbered(1+r.Intn(14)), "")
		var l []api.Param
		for range r.Intn(30) {
			a, b := r.Intn(len(some)), r.Intn(len(some))
			l = append(l, api.Param{Name: some[min(a, b)], Label: some[max(a, b)], At: r.Intn(9) - 4})
			if r.Intn(20) == 0 {
				l[len(l)-1].Name = ""
			}
		}
		count[wantLike(t, l)]++
	}
	if count[api.OK] < 1000 || count[api.ErrMany] < 1000 || count[api.ErrOrder] < 1000 {
		t.Error("too few of one kind:", count)
	}
}

// R1: long lists end soon.
func TestMakeLong(t *testing.T) {
	var same, other []api.Param
	for i := range 300000 {
		same = append(same, api.Param{Name: "low", Label: "high"})
		other = append(other, api.Param{Name: fmt.Sprint(i), Label: "x"})
	}
	if got, e := label.Make(same); e != api.OK || got.Low != 1 {
		t.Errorf("14.1: a long list: %v %d", got, e)
	}
	wantError(t, api.ErrMany, other)
}

// R3: writing into a lattice, up to its capacity, changes neither another one nor another of its rows.
func TestMakeNewMemory(t *testing.T) {
	l := pairs("o", "a", "o", "b", "a", "p", "b", "p")
	want, _ := made(l)
	other, _ := label.Make(l)
	for a := range 4 {
		got, _ := label.Make(l)
		clearRow(got.Le[a])
		clearRow(got.Join[a])
		clearRow(got.Meet[a])
		clearRow(got.Names)
		copy(got.Le[a], want.Le[a])
		copy(got.Join[a], want.Join[a])
		copy(got.Meet[a], want.Meet[a])
		copy(got.Names, want.Names)
		if !reflect.DeepEqual(got, want) {
			t.Errorf("R3: row %d shares memory: %v", a, got)
		}
	}
	got, _ := label.Make(l)
	clearRow(got.Le)
	clearRow(got.Join)
	clearRow(got.Meet)
	if again, _ := label.Make(l); !reflect.DeepEqual(other, want) || !reflect.DeepEqual(again, want) {
		t.Errorf("R3: another lattice is changed: %v %v", other, again)
	}
}

// clearRow writes into a slice and behind it.
func clearRow[T any](l []T) {
	clear(l[:cap(l)])
}

// 14.2: the example of the chapter.
func TestReadExample(t *testing.T) {
	got, e, at := label.Read("labels low < high;")
	if e != api.OK || at != 0 || !slices.Equal(got.Names, []string{"high", "low"}) || got.Low != 1 || got.High != 0 || got.Join[1][0] != 0 || got.Join[0][1] != 0 {
		t.Errorf("14.2: %v %d %d", got, e, at)
	}
}

// 14.2: an error of parse.Labels has its offset, an error of Make the offset 0.
func TestReadErrors(t *testing.T) {
	letters := "labels a<b<c<d<e<f<g<h<i<j<k<l"
	name := strings.Repeat("x", 21)
	for _, c := range []struct {
		s  string
		e  api.Errno
		at int
	}{
		{"", api.ErrSyntax, 0}, {"   ", api.ErrSyntax, 3}, {"a<b;", api.ErrSyntax, 0}, {"labels a b;", api.ErrSyntax, 9},
		{"labels a<b", api.ErrSyntax, 10}, {"labels a<;", api.ErrSyntax, 9}, {"labels a<b; if;", api.ErrSyntax, 12},
		{"labels a<=b;", api.ErrSyntax, 8}, {"labels A;", api.ErrWord, 7}, {"labels a; b ? c", api.ErrWord, 12},
		{"labels " + name + ";", api.ErrLong, 7}, {"labels a<b;" + strings.Repeat(" ", 8182), api.ErrLong, 8192},
		{"labels a<b;b<a; 1", api.ErrSyntax, 16}, {letters + "<m; 1", api.ErrSyntax, 34},
		{"labels", api.ErrOrder, 0}, {" labels # a<b;", api.ErrOrder, 0}, {"labels a;b;", api.ErrOrder, 0},
		{"labels a<b;b<a;", api.ErrOrder, 0}, {"labels a<b<c<a;", api.ErrOrder, 0}, {"labels o<a;o<b;", api.ErrOrder, 0},
		{letters + "<m;", api.ErrMany, 0}, {letters + "<m<a;", api.ErrMany, 0}, {letters + "<a;", api.ErrOrder, 0},
		{letters + ";m;", api.ErrMany, 0},
	} {
		got, e, at := label.Read(c.s)
		if e != c.e || at != c.at || !reflect.DeepEqual(got, api.Lattice{}) {
			t.Errorf("14.2: Read(%.80q) = %v %d %d; want error %d at %d", c.s, got, e, at, c.e, c.at)
		}
	}
}

// 14.2: the lattice of a source is that of its pairs.
func TestRead(t *testing.T) {
	for _, s := range []string{
		"labels a;", "labels a<a;", "labels a<b<c<d<e<f<g<h<i<j<k<l;", "labels a<b;" + strings.Repeat(" ", 8181),
		"labels o<a<p;o<b<p;a;b;p;", "labels bot<a<top;\nbot<b<top; # more\nbot<c;c<top;", "labels d<a;c<b;a<c;",
		"labels " + strings.Repeat("x", 20) + "<y_1;",
	} {
		l, _, _ := parse.Labels(s)
		want, e := made(l)
		got, err, at := label.Read(s)
		if e != api.OK || err != api.OK || at != 0 || !reflect.DeepEqual(got, want) {
			t.Errorf("14.2: Read(%.80q) = %s %d %d; want %s", s, short(got), err, at, short(want))
		}
	}
}

// 14.2: Place is the first index of a name, or -1, whether the lattice is valid or not.
func TestPlace(t *testing.T) {
	five, e := label.Make(pairs("bot", "a", "bot", "b", "bot", "c", "a", "top", "b", "top", "c", "top"))
	if e != api.OK {
		t.Fatal("14.1:", e)
	}
	for _, c := range []struct {
		t    api.Lattice
		name string
		want int
	}{
		{five, "b", 1}, {five, "z", -1}, {five, "a", 0}, {five, "bot", 2}, {five, "c", 3}, {five, "top", 4},
		{five, "", -1}, {five, "bo", -1}, {five, "bott", -1}, {five, "A", -1}, {five, "to", -1}, {five, "top\x00", -1},
		{api.Lattice{}, "", -1}, {api.Lattice{}, "a", -1},
		{api.Lattice{Names: []string{"", "x"}}, "", 0}, {api.Lattice{Names: []string{"", "x"}}, "x", 1},
		{api.Lattice{Names: []string{"b", "a", "b", "a"}}, "a", 1}, {api.Lattice{Names: []string{"b", "a", "b", "a"}}, "b", 0},
		{api.Lattice{Names: []string{"z", "y", "x"}}, "x", 2}, {api.Lattice{Names: []string{"z", "y", "x"}}, "z", 0},
		{api.Lattice{Names: numbered(200)}, "n150", 150}, {api.Lattice{Names: numbered(200)}, "n200", -1},
		{api.Lattice{Names: []string{"\xff", "é"}}, "é", 1},
	} {
		before := copied(c.t)
		if got := label.Place(c.t, c.name); got != c.want {
			t.Errorf("14.2: Place(%q, %q) = %d; want %d", c.t.Names, c.name, got, c.want)
		}
		if !reflect.DeepEqual(c.t, before) {
			t.Errorf("R3: Place has changed %v", before)
		}
	}
}
