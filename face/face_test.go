package face_test

import (
	"fmt"
	"math/rand"
	"slices"
	"strings"
	"testing"

	"aquifer/api"
	"aquifer/face"
)

// ofSource checks Of of a source and the lattice of high and low against the model.
func ofSource(t *testing.T, s string) (api.Face, []api.Diag) {
	t.Helper()
	return wantOf(t, parsed(t, s), lattice(t, "labels low<high;"))
}

// wantDiags checks the diagnostics of a source, each told as `Code Name At`, where At is the number of the word, from 0
// on, in a source with one space between any two words.
func wantDiags(t *testing.T, s string, want ...string) {
	t.Helper()
	f, l := ofSource(t, s)
	var got []string
	for _, d := range l {
		got = append(got, fmt.Sprintf("%d %s %d", d.Code, d.Name, strings.Count(s[:d.At], " ")))
		if d.Mod != "m" {
			t.Errorf("15.1: the Mod of %v", d)
		}
	}
	if !slices.Equal(got, want) {
		t.Errorf("15.1: Of(%s) tells %q; want %q", s, got, want)
	}
	if (len(want) > 0) != equal(f, api.Face{}) {
		t.Errorf("15.1: Of(%s) is %v", s, f)
	}
}

// 15.1: the example of the chapter.
func TestOfExample(t *testing.T) {
	wantDiags(t, "module m ; var x : low = 1 ; var x : low = 1 ;", "6 x 11")
}

// 15.1: variables and procedures in ascending order of names, with what importers see of them.
func TestOfWritten(t *testing.T) {
	f, l := ofSource(t, `module m; import z;
		var b: low = 3; var c: high = -4; var a_: low = 0; var a1: high = 5;
		proc q(y: high, x: low, w: high) -> low pc high uses { net, disk, net, a } { let v: low = 1; result = v; }
		proc p() pc low uses {} { skip; }`)
	want := api.Face{
		Vars: []api.Var{{Name: "a1", Label: "high"}, {Name: "a_", Label: "low"}, {Name: "b", Label: "low"}, {Name: "c", Label: "high"}},
		Procs: []api.Sig{
			{Name: "p", Pc: "low"},
			{Name: "q", Params: []string{"high", "low", "high"}, Has: true, Result: "low", Pc: "high", Uses: []string{"a", "disk", "net"}},
		},
	}
	if len(l) != 0 || !equal(f, want) {
		t.Errorf("15.1: %+v %v; want %+v", f, l, want)
	}
	if f, l := ofSource(t, "module m;"); len(l) != 0 || !equal(f, api.Face{}) {
		t.Errorf("15.1: of nothing: %+v %v", f, l)
	}
}

// 15.1, 1: imports of one name, and those of the module itself.
func TestOfImports(t *testing.T) {
	wantDiags(t, "module m ; import a ; import b ; import a ; import b ; import a ;", "6 a 10", "6 b 13", "6 a 16")
	wantDiags(t, "module m ; import m ;", "6 m 4")
	wantDiags(t, "module m ; import m ; import a ; import m ; import a ;", "6 m 4", "6 m 10", "6 a 13")
}

// 15.1, 2: variables ahead of procedures, wherever they stand.
func TestOfNames(t *testing.T) {
	wantDiags(t, "module m ; proc x ( ) pc low uses { } { } var x : low = 1 ;", "6 x 4")
	wantDiags(t, "module m ; var x : low = 1 ; proc x ( ) pc low uses { } { } proc y ( ) pc low uses { } { } proc x ( ) pc low uses { } { } "+
		"var y : low = 1 ; var x : low = 1 ;", "6 x 51", "6 x 11", "6 y 22", "6 x 33")
	wantDiags(t, "module m ; proc p ( ) pc low uses { } { } proc p ( ) pc low uses { } { }", "6 p 15")
}

// 15.1, 3: parameters of one procedure.
func TestOfParams(t *testing.T) {
	wantDiags(t, "module m ; proc p ( a : low , b : low , a : low , a : low ) pc low uses { } { } proc q ( b : low , b : low ) pc low uses { } { }",
		"6 a 14", "6 a 18", "6 b 36")
}

// 15.1: what shares no names.
func TestOfApart(t *testing.T) {
	if _, l := ofSource(t, `module m; import a; import low; var m: low = 1; var a: low = 1; proc p(a: low, p: low, m: low) pc low uses {a, p, m}
		{ let a: low = 1; let x: none = 1; let x: low = y; emit z; call q.r(); } proc low(a: low, low: high) pc low uses {} {}`); len(l) != 0 {
		t.Errorf("15.1: %v", l)
	}
}

// 15.1, 4: labels that the lattice does not have, each as often as it stands there.
func TestOfLabels(t *testing.T) {
	wantDiags(t, "module m ; proc p ( a : no , b : low , c : nor ) -> none pc odd uses { } { } var x : no = 1 ; var y : lo = 1 ; var z : high = 1 ;",
		"7 no 28", "7 lo 35", "7 no 6", "7 nor 14", "7 none 4", "7 odd 4")
	wantDiags(t, "module m ; proc p ( ) pc no uses { } { } proc q ( ) -> no pc no uses { } { } proc r ( a : no ) pc low uses { } { }",
		"7 no 4", "7 no 15", "7 no 15", "7 no 30")
}

// 15.1: the four kinds in order.
func TestOfOrder(t *testing.T) {
	wantDiags(t, "module m ; import m ; proc p ( a : no , a : low ) pc low uses { } { } var p : bad = 1 ; var p : low = 1 ;",
		"6 m 4", "6 p 32", "6 p 7", "6 a 13", "7 bad 25", "7 no 9")
	wantDiags(t, "module m ; proc p ( a : low , a : low ) pc low uses { } { } proc p ( ) -> low pc no uses { } { }",
		"6 p 22", "6 a 10", "7 no 22")
}

// 15.1: modules that no source has: a Result without Has is no label that counts, any strings are names.
func TestOfMade(t *testing.T) {
	low := lattice(t, "labels low;")
	f, l := wantOf(t, api.Module{Name: "m", Procs: []api.Proc{{Name: "p", Result: "no", Pc: "low"}}}, low)
	if len(l) != 0 || len(f.Procs) != 1 || f.Procs[0].Result != "no" || f.Procs[0].Has {
		t.Errorf("15.1: a Result without Has: %v %v", f, l)
	}
	if _, l := wantOf(t, api.Module{Procs: []api.Proc{{Has: true, Pc: "low"}}}, low); len(l) != 1 || l[0] != (api.Diag{Code: 7}) {
		t.Errorf("15.1: an empty label: %v", l)
	}
	if _, l := wantOf(t, api.Module{Imports: []api.Import{{At: -5}}}, low); len(l) != 1 || l[0] != (api.Diag{At: -5, Code: 6}) {
		t.Errorf("15.1: an import without a name: %v", l)
	}
	var names []api.Var
	for i, name := range []string{"b", "\xff", "é", "", "B"} {
		names = append(names, api.Var{Name: name, Label: "low", Init: i, At: 9 - i})
	}
	f, l = wantOf(t, api.Module{Vars: names}, low)
	var got []string
	for _, v := range f.Vars {
		got = append(got, v.Name)
	}
	if len(l) != 0 || !slices.Equal(got, []string{"", "B", "b", "é", "\xff"}) {
		t.Errorf("15.1: names by their bytes: %q %v", got, l)
	}
}

// 15.1: a lattice has the labels of its Names, whether it is valid or not.
func TestOfLattices(t *testing.T) {
	m := parsed(t, "module m; var x: a = 1; proc p(y: b) -> c pc a uses {} {}")
	for _, c := range []struct {
		names []string
		want  int
	}{
		{nil, 4}, {[]string{""}, 4}, {[]string{"a"}, 2}, {[]string{"b"}, 3}, {[]string{"a", "b", "c"}, 0}, {[]string{"c", "a", "b", "a"}, 0},
		{[]string{"b", "a", "d"}, 1}, {[]string{"c", "c"}, 3}, {[]string{"A", "aa", "b ", " c"}, 4}, {[]string{"z", "y", "c", "x", "b", "w"}, 2},
	} {
		if _, l := wantOf(t, m, api.Lattice{Names: c.names}); len(l) != c.want {
			t.Errorf("15.1: of the labels %q there are missing %v", c.names, l)
		}
		if _, l := wantOf(t, m, api.Lattice{Names: c.names, Le: [][]bool{nil}, Join: [][]int{{9}}, Low: -1, High: 99}); len(l) != c.want {
			t.Errorf("15.1: of the labels %q of no lattice there are missing %v", c.names, l)
		}
	}
}

// 15.1: random modules, with few names and with many.
func TestOfRandom(t *testing.T) {
	r := rand.New(rand.NewSource(1))
	few := []string{"a", "b", "m"}
	var many []string
	for i := range 1000 {
		many = append(many, fmt.Sprint("n", i*i))
	}
	count := map[string]int{}
	for i := range 20000 {
		names, labels := few, []string{"low", "high"}
		if i%2 == 0 {
			names = many
		}
		if i%3 == 0 {
			labels = append(labels, "no", "", "hi")
		}
		l := api.Lattice{Names: []string{"high", "low"}}
		if i%5 == 0 {
			l.Names = []string{"low", "no", "", "high", "low"}
		}
		f, diags := wantOf(t, someModule(r, names, labels), l)
		kinds := map[int]string{}
		for _, d := range diags {
			kinds[d.Code] += "+"
		}
		count[fmt.Sprint(len(kinds[6]) > 0, len(kinds[7]) > 0)]++
		if len(f.Vars) > 1 && len(f.Procs) > 1 {
			count["shown"]++
		}
	}
	if count["false false"] < 2000 || count["true false"] < 1000 || count["false true"] < 1000 || count["true true"] < 1000 || count["shown"] < 500 {
		t.Error("too few of one kind:", count)
	}
}

// R1: long lists end soon, however many labels the lattice has.
func TestOfLong(t *testing.T) {
	const n = 100000
	m := api.Module{Name: "m"}
	l := api.Lattice{}
	for i := range n {
		s := fmt.Sprint(n - i)
		l.Names = append(l.Names, s)
		m.Imports = append(m.Imports, api.Import{Name: s})
		m.Vars = append(m.Vars, api.Var{Name: "v" + s, Label: s})
		m.Procs = append(m.Procs, api.Proc{Name: "p" + s, Pc: s})
		m.Procs[0].Params = append(m.Procs[0].Params, api.Param{Name: s, Label: s})
		m.Procs[0].Uses = append(m.Procs[0].Uses, s, s)
	}
	f, diags := face.Of(m, l)
	if len(diags) != 0 || len(f.Vars) != n || len(f.Procs) != n {
		t.Errorf("15.1: %d variables, %d procedures and %d diagnostics", len(f.Vars), len(f.Procs), len(diags))
	}
	if back, e := face.Decode(face.Encode(f)); e != api.OK || !equal(back, f) {
		t.Errorf("15.2: a long interface does not come back: %d", e)
	}
	for i := range m.Vars {
		m.Vars[i] = api.Var{Name: "x", Label: "no"}
	}
	if _, diags := face.Of(m, l); len(diags) != 2*n-1 {
		t.Errorf("15.1: %d diagnostics", len(diags))
	}
}

// R3: writing into an interface, up to its capacity, changes no module, no other interface, and no other list of it.
func TestOfNewMemory(t *testing.T) {
	m := parsed(t, "module m; var x: low = 1; proc p(a: low, b: high) pc low uses {b, a} {} proc q(a: high) pc low uses {c} {} proc r() pc low uses {} {}")
	l := lattice(t, "labels low<high;")
	before, want := copied(m), seen(m)
	other, _ := face.Of(m, l)
	for i := range want.Procs {
		got, _ := face.Of(m, l)
		spoil(got.Procs[i].Params)
		spoil(got.Procs[i].Uses)
		copy(got.Procs[i].Params, want.Procs[i].Params)
		copy(got.Procs[i].Uses, want.Procs[i].Uses)
		if !equal(got, want) {
			t.Errorf("R3: procedure %d shares memory: %v", i, got)
		}
	}
	got, _ := face.Of(m, l)
	spoil(got.Procs[0].Params)
	spoil(got.Procs[0].Uses)
	spoil(got.Procs)
	spoil(got.Vars)
	if again, _ := face.Of(m, l); !equal(m, before) || !equal(other, want) || !equal(again, want) {
		t.Errorf("R3: something else is changed: %v %v %v", m, other, again)
	}
	m.Vars = append(m.Vars, m.Vars...)
	_, first := face.Of(m, l)
	spoil(first)
	wantOf(t, m, l)
}
