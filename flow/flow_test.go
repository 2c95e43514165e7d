package flow_test

import (
	"testing"

	"aquifer/api"
	"aquifer/flow"
	"aquifer/label"
)

const (
	chain   = "labels low<high;"
	diamond = "labels low<left<high;low<right<high;"
)

// around are the interfaces that the tests of bodies know: b shows nothing, c is not imported, of d nothing is known, and
// odd has labels that there are not.
func around(t *testing.T, lat api.Lattice) []flow.Known {
	t.Helper()
	a := shows(t, `module a; var lo: low = 0; var le: left = 0; var hi: high = 0;
		proc any() pc high uses {} {}
		proc lows(x: low) -> low pc low uses {} {}
		proc two(x: left, y: right) -> left pc left uses {s, u, r} {}
		proc highs(x: high) -> high pc high uses {} {}`, lat)
	c := shows(t, "module c; var x: low = 0; proc p() pc high uses {} {}", lat)
	odd := flow.Known{Name: "odd", Has: true, Face: api.Face{
		Vars: []api.Var{{Name: "x", Label: "no"}},
		Procs: []api.Sig{
			{Name: "p", Params: []string{"no"}, Pc: "no"},
			{Name: "q", Has: true, Result: "no", Pc: "no"},
		},
	}}
	return []flow.Known{c, a, {Name: "b", Face: a.Face}, odd, {Name: "a"}, {Name: "odd", Has: true}}
}

const (
	before = `module m;import a;import b;import odd;import d;var l:low=0;var e:left=0;var r:right=0;var h:high=0;`
	others = `proc own(x:left,y:low)->left pc left uses{w,u,w}{}proc void()pc high uses{}{}`
	head   = before + others + `proc p(pl:low,ph:high)->left pc low uses{u,v}{`
)

// wantBody checks what is told of the body of p; places are from its beginning on.
func wantBody(t *testing.T, body, want string) {
	t.Helper()
	lat := lattice(t, diamond)
	l := wantModel(t, parsed(t, head+body+"}"), lat, around(t, lat))
	if noFace := "25 DNoFace b; 45 DNoFace d"; len(l) < 2 || text(l[:2], 0) != noFace {
		t.Fatalf("16.1: %s; want %s first", text(l, 0), noFace)
	}
	if got := text(l[2:], len(head)); got != want {
		t.Errorf("chapter 16: %s\ntells %s\nwant  %s", body, got, want)
	}
	for _, d := range l {
		if d.Mod != "m" {
			t.Errorf("16.1: %+v has another module than m", d)
		}
	}
}

func wantBodies(t *testing.T, all map[string]string) {
	t.Helper()
	for body, want := range all {
		wantBody(t, body, want)
	}
}

// wantTold checks what is told of a module.
func wantTold(t *testing.T, m string, lat api.Lattice, known []flow.Known, want string) {
	t.Helper()
	l := wantModel(t, parsed(t, m), lat, known)
	if got := text(l, 0); got != want {
		t.Errorf("chapter 16: %s\ntells %s\nwant  %s", m, got, want)
	}
}

// 16.4: the example of the chapter.
func TestExample(t *testing.T) {
	m := "module m;var a:low=0;var b:high=0;proc p()pc low uses{}{a=b;}"
	wantTold(t, m, lattice(t, chain), nil, "56 DFlow a")
}

// 16.1: what face.Of tells is told alone, whether the lattice is valid or not.
func TestFaceAlone(t *testing.T) {
	good := lattice(t, chain)
	turned := copied(good)
	turned.Low = turned.High
	const bad = "proc bad()pc low uses{}{let x:no=h;l=z;call q.q();emit e;}"
	for _, c := range []struct{ m, want string }{
		{"module m;import m;import b;" + bad, "16 DTwice m"},
		{"module m;import a;import b;import a;" + bad, "34 DTwice a"},
		{"module m;import b;var x:low=0;var x:low=0;" + bad, "34 DTwice x"},
		{"module m;import b;var bad:low=0;" + bad, "37 DTwice bad"},
		{"module m;import b;proc bad()pc low uses{}{}" + bad, "48 DTwice bad"},
		{"module m;import b;proc q(x:low,x:low)pc low uses{}{}" + bad, "31 DTwice x"},
		{"module m;import b;var x:no=0;" + bad, "22 DLabel no"},
		{"module m;import b;proc q(x:no)pc low uses{}{}" + bad, "25 DLabel no"},
		{"module m;import b;proc q()->no pc none uses{}{}" + bad, "23 DLabel no; 23 DLabel none"},
		{"module m;import m;var x:no=0;" + bad, "16 DTwice m; 22 DLabel no"},
	} {
		wantTold(t, c.m, good, nil, c.want)
		wantTold(t, c.m, turned, nil, c.want)
	}
	wantTold(t, "module m;import b;var x:low=0;proc p()pc high uses{}{y=z;}", api.Lattice{}, nil, "22 DLabel low; 35 DLabel high")
	wantTold(t, "module m;import b;var x:low=0;proc p()pc high uses{}{y=z;}", api.Lattice{Names: []string{"low"}}, nil, "35 DLabel high")
}

// 16.1: a lattice that is not valid, where face.Of tells nothing.
func TestLatticeNotRight(t *testing.T) {
	const m = "module m;import b;proc p(v:low)->high pc low uses{}{let x:no=h;l=z;call q.q();emit e;}"
	good := lattice(t, diamond)
	if l := flow.Check(parsed(t, m), good, nil); len(l) != 7 {
		t.Errorf("16.1: %s", text(l, 0))
	}
	for _, turn := range []func(*api.Lattice){
		func(l *api.Lattice) { l.Low = l.High },
		func(l *api.Lattice) { l.High = l.Low },
		func(l *api.Lattice) { l.Low = -1 },
		func(l *api.Lattice) { l.High = 4 },
		func(l *api.Lattice) { l.Le[0][1] = true },
		func(l *api.Lattice) { l.Le[1][1] = false },
		func(l *api.Lattice) { l.Le = nil },
		func(l *api.Lattice) { l.Le[3] = l.Le[3][:3] },
		func(l *api.Lattice) { l.Join[1][3] = 2 },
		func(l *api.Lattice) { l.Join[1][3] = 99 },
		func(l *api.Lattice) { l.Join[3] = nil },
		func(l *api.Lattice) { l.Join = l.Join[:3] },
		func(l *api.Lattice) { l.Meet[1][3] = -1 },
		func(l *api.Lattice) { l.Meet = nil },
		func(l *api.Lattice) { l.Names[1], l.Names[3] = l.Names[3], l.Names[1] },
		func(l *api.Lattice) { l.Names = append(l.Names, "top") },
		func(l *api.Lattice) { l.Names[1] = "high" },
	} {
		lat := copied(good)
		turn(&lat)
		if label.Right(lat) {
			t.Errorf("14.2: %+v is valid", lat)
		}
		wantTold(t, m, lat, nil, "")
	}
	wantTold(t, "module m;import a;", api.Lattice{}, nil, "")
}

// 16.1: imports that show nothing, in their order; of several Knowns with a name the first one decides.
func TestImports(t *testing.T) {
	lat := lattice(t, chain)
	a := shows(t, "module a;var x:low=0;", lat)
	b := shows(t, "module b;var y:low=0;", lat)
	const m = "module m;import c;import b;import a;proc p()pc low uses{}{a.x=b.y;b.y=c.z;}"
	for _, c := range []struct {
		known []flow.Known
		want  string
	}{
		{nil, "16 DNoFace c; 25 DNoFace b; 34 DNoFace a"},
		{[]flow.Known{a}, "16 DNoFace c; 25 DNoFace b"},
		{[]flow.Known{a, b}, "16 DNoFace c"},
		{[]flow.Known{b, a, {Name: "c"}}, "16 DNoFace c"},
		{[]flow.Known{a, b, {Name: "c"}, {Name: "c", Has: true}}, "16 DNoFace c"},
		{[]flow.Known{{Name: "c", Has: true, Face: api.Face{Vars: []api.Var{{Name: "z", Label: "low"}}}}, {Name: "c"}, a, b, {Name: "b"}, {Name: "a"}}, ""},
		{[]flow.Known{{Name: "a"}, a, b, {Name: "b"}, {Name: "c", Has: true}}, "34 DNoFace a; 70 DName c.z"},
		{[]flow.Known{a, {Name: "b", Has: true}, b, {Name: "c", Has: true}}, "62 DName b.y; 70 DName c.z; 66 DName b.y"},
		{[]flow.Known{{Name: "m", Has: true}, {Has: true}, a, b}, "16 DNoFace c"},
		{[]flow.Known{{Name: "a", Face: a.Face}, {Name: "b", Face: b.Face}}, "16 DNoFace c; 25 DNoFace b; 34 DNoFace a"},
	} {
		wantTold(t, m, lat, c.known, c.want)
	}
	wantTold(t, "module m;", lat, []flow.Known{a, {Name: "b"}}, "")
	wantTold(t, "module m;import b;", lat, []flow.Known{a, b}, "")
}

// 16.1: procedures and statements in order, a statement before its Body, and that before its Else; the Mod is m's Name.
func TestOrder(t *testing.T) {
	wantBodies(t, map[string]string{
		"": "", "if x{y=1;}else{z=1;}": "3 DName x; 5 DName y; 15 DName z", "if x{if y{emit e;}else{emit f;}emit g;}else{emit h;}emit i;": "3 DName x; 8 DName y; 10 DEffect e; 23 DEffect f; 31 DEffect g; 44 DEffect h; 52 DEffect i",
		"while x{while y{emit e;}emit f;}emit g;": "6 DName x; 14 DName y; 16 DEffect e; 24 DEffect f; 32 DEffect g",
		"if 1{}else{emit e;}emit f;":              "11 DEffect e; 19 DEffect f",
	})
	wantBodies(t, map[string]string{
		"x=a.y+(z-w)*b.z%c.x;":      "2 DName a.y; 7 DName z; 9 DName w; 16 DName c.x; 0 DName x",
		"let l:no=x+y;":             "9 DName x; 11 DName y; 0 DTwice l; 0 DLabel no",
		"let h:low=x+l+e;":          "10 DName x; 0 DTwice h; 0 DFlow h",
		"result=x+h-y;":             "7 DName x; 11 DName y; 0 DFlow result",
		"call x=a.two(y,z+w,-v);":   "13 DName y; 15 DName z; 17 DName w; 20 DName v; 0 DArity a.two; 0 DEffect r; 0 DEffect s",
		"call x=a.two(y+h,z+e);":    "13 DName y; 17 DName z; 0 DArg 0; 0 DArg 1; 0 DEffect r; 0 DEffect s; 0 DName x",
		"call l=a.two(y+h,z+e);":    "13 DName y; 17 DName z; 0 DArg 0; 0 DArg 1; 0 DEffect r; 0 DEffect s; 0 DFlow l",
		"call x=y(z,w);":            "9 DName z; 11 DName w; 0 DName y",
		"l=h;l=1;e=h;emit x;l=h;":   "0 DFlow l; 8 DFlow e; 12 DEffect x; 19 DFlow l",
		"skip;skip;x=1;skip;y=1;":   "10 DName x; 19 DName y",
		"while x{l=y;}let z:low=l;": "6 DName x; 10 DName y",
	})
	lat := lattice(t, chain)
	wantTold(t, "module m_1;import b;proc q()pc low uses{}{x=1;}proc p()pc low uses{}{y=1;}", lat, nil, "18 DNoFace b; 42 DName x; 69 DName y")
	for _, d := range flow.Check(parsed(t, "module m_1;import b;proc p(x:high)pc high uses{}{x=y;call b.x();call z();result=1;emit e;let x:low=x;}"), lat, nil) {
		if d.Mod != "m_1" {
			t.Errorf("16.1: %+v", d)
		}
	}
}
