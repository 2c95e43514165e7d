package flow_test

import (
	"fmt"
	"math"
	"math/rand"
	"reflect"
	"slices"
	"strings"
	"testing"

	"aquifer/api"
	"aquifer/flow"
	"aquifer/label"
)

// dressed returns Knowns that say the same of the imports of m: in another order, with others before and behind them, and
// with what is no part of an interface.
func dressed(c *source, m api.Module, known []flow.Known) []flow.Known {
	var first, rest []flow.Known
	for _, k := range known {
		switch {
		case slices.ContainsFunc(first, func(o flow.Known) bool { return o.Name == k.Name }):
		case !slices.ContainsFunc(m.Imports, func(i api.Import) bool { return i.Name == k.Name }):
		default:
			k.Face = copied(k.Face)
			if !k.Has {
				k.Face = c.face()
			}
			for i := range k.Face.Vars {
				k.Face.Vars[i].Init, k.Face.Vars[i].At = c.r.Intn(9), c.r.Intn(9)
			}
			first = append(first, k)
		}
	}
	c.r.Shuffle(len(first), func(i, j int) { first[i], first[j] = first[j], first[i] })
	for _, k := range first {
		rest = append(rest, flow.Known{Name: k.Name, Has: c.rare(2), Face: c.face()})
	}
	other := flow.Known{Name: c.one("", "m", "e", "aa", "z"), Has: true, Face: c.face()}
	return slices.Concat([]flow.Known{other}, first, rest, []flow.Known{other})
}

// 16.5: only the interfaces of imports count, in whatever order they are known.
func TestOnlyInterfaces(t *testing.T) {
	randoms(t, 2, 3000, func(c *source, m api.Module, lat api.Lattice, known []flow.Known) {
		want := flow.Check(m, lat, known)
		other := dressed(c, m, known)
		if got := flow.Check(m, lat, other); !slices.Equal(got, want) {
			t.Fatalf("16.5: with %+v\n%s\nwith %+v\n%s", known, text(want, 0), other, text(got, 0))
		}
	})
}

// 16.5: modules with the same interface are the same to their importers, whatever else is different, or wrong, in them.
func TestSameInterfaces(t *testing.T) {
	lat := lattice(t, diamond)
	m := parsed(t, "module m;import a;var l:low=0;proc p(h:high)->left pc low uses{s}{l=a.x;a.y=h;call l=a.f(h,1);call a.g(2);emit t;let z:no=a.f;}")
	var want []api.Diag
	for i, s := range []string{
		"module a;var x:left=0;var y:right=1;proc f(u:low,v:left)->high pc low uses{r,s}{}proc g(x:high)pc high uses{}{}",
		"module a;import b;proc g(y:high)pc high uses{}{emit q;y=z;}var y:right=-5;proc f(v:low,u:left)->high pc low uses{s,r,s}{result=1;}var x:left=9;",
		"  module a; # other\nvar y:right=1;var x:left=0;proc f(a:low,b:left)->high pc low uses{r,r,s}{call g(1);x=y;}proc g(a:high)pc high uses{}{g=1;}",
	} {
		l := wantModel(t, m, lat, []flow.Known{shows(t, s, lat)})
		if i == 0 {
			want = l
		}
		if len(l) != 8 || !slices.Equal(l, want) {
			t.Errorf("16.5: with %s\n%s; want\n%s", s, text(l, 0), text(want, 0))
		}
	}
	for _, s := range []string{
		"module a;var x:low=0;var y:right=1;proc f(u:low,v:left)->high pc low uses{r,s}{}proc g(x:high)pc high uses{}{}",
		"module a;var x:left=0;var y:high=1;proc f(u:low,v:left)->high pc low uses{r,s}{}proc g(x:high)pc high uses{}{}",
		"module a;var x:left=0;var y:right=1;proc f(u:high,v:left)->high pc low uses{r,s}{}proc g(x:high)pc high uses{}{}",
		"module a;var x:left=0;var y:right=1;proc f(u:low,v:left)->low pc low uses{r,s}{}proc g(x:high)pc high uses{}{}",
		"module a;var x:left=0;var y:right=1;proc f(u:low,v:left)->high pc low uses{s}{}proc g(x:high)pc high uses{}{}",
		"module a;var x:left=0;var y:right=1;proc f(u:low,v:left)->high pc low uses{r,s}{}proc g()pc high uses{}{}",
	} {
		if l := wantModel(t, m, lat, []flow.Known{shows(t, s, lat)}); slices.Equal(l, want) {
			t.Errorf("16.5: with %s\n%s, as with another interface", s, text(l, 0))
		}
	}
}

// R1, R3: the same arguments give the same diagnostics, and writing into them, up to their capacity, changes no others.
func TestNewMemory(t *testing.T) {
	lat := lattice(t, diamond)
	known := around(t, lat)
	for _, s := range []string{head + "x=h;l=h;call a.two(h,h);emit x;}", "module m;var x:no=0;var x:no=0;"} {
		m := parsed(t, s)
		kept := given{copied(m), copied(lat), copied(known)}
		first, other := flow.Check(m, lat, known), flow.Check(m, lat, known)
		want := slices.Clone(other)
		clear(first[:cap(first)])
		if len(want) == 0 || !slices.Equal(other, want) || !slices.Equal(flow.Check(m, lat, known), want) {
			t.Errorf("R3: %v; want %v", other, want)
		}
		if !reflect.DeepEqual(given{copied(m), copied(lat), copied(known)}, kept) {
			t.Errorf("R3: an argument is changed: %+v", m)
		}
	}
}

// R1: many variables and procedures, of many modules, that are not asked for.
func TestManyKnown(t *testing.T) {
	const n = 100000
	var f api.Face
	var known []flow.Known
	var uses []string
	for i := range n {
		s := fmt.Sprintf("n%06d", i)
		uses = append(uses, s)
		f.Vars = append(f.Vars, api.Var{Name: s, Label: "low"})
		f.Procs = append(f.Procs, api.Sig{Name: s, Pc: "low"})
		known = append(known, flow.Known{Name: s, Has: true})
	}
	f.Procs = append(f.Procs, api.Sig{Name: "p", Pc: "low", Uses: uses})
	known = append(known, flow.Known{Name: "a", Has: true, Face: f})
	lat := lattice(t, chain)
	names := "x=" + strings.Repeat("a.n099999+", 700) + "1;"
	m := parsed(t, "module m;import a;var x:low=0;proc p()pc low uses{n000000}{"+names+"call a.p();call a.n099999();}")
	l := flow.Check(m, lat, known)
	if len(l) != n-1 || l[0].Name != "n000001" || l[n-2].Name != "n099999" || l[n-2].Code != api.DEffect {
		t.Errorf("16.4: %d diagnostics", len(l))
	}
}

// turn sets some field or list in a value to something else.
func turn(r *rand.Rand, v reflect.Value) {
	switch v.Kind() {
	case reflect.Struct:
		turn(r, v.Field(r.Intn(v.NumField())))
	case reflect.Slice:
		switch n := v.Len(); {
		case n > 0 && r.Intn(4) > 0:
			turn(r, v.Index(r.Intn(n)))
		case n > 0 && r.Intn(2) == 0:
			v.Set(reflect.AppendSlice(v.Slice(0, n-1), v.Slice(0, 1)))
		case r.Intn(3) == 0:
			v.SetZero()
		default:
			v.Set(reflect.Append(v, reflect.Zero(v.Type().Elem())))
			turn(r, v.Index(n))
		}
	case reflect.Int:
		v.SetInt([]int64{-1, 0, 1, 2, 3, 5, 8, 9, 12, 13, math.MaxInt64, math.MinInt64}[r.Intn(12)])
	case reflect.String:
		v.SetString([]string{"", "a", "m", "x", "p", "no", "\xff", "a.x"}[r.Intn(8)])
	case reflect.Bool:
		v.SetBool(!v.Bool())
	}
}

// R1: Check answers also for modules that chapter 12 can't return, and for what is no lattice and no interface.
func TestAnything(t *testing.T) {
	randoms(t, 3, 4000, func(c *source, m api.Module, lat api.Lattice, known []flow.Known) {
		all := given{copied(m), copied(lat), copied(known)}
		for range 1 + c.r.Intn(12) {
			turn(c.r, reflect.ValueOf(&all.m).Elem())
		}
		flow.Check(all.m, lat, known)
		for range c.r.Intn(4) {
			turn(c.r, reflect.ValueOf(&all.known).Elem())
		}
		flow.Check(all.m, lat, all.known)
		for range 1 + c.r.Intn(2) {
			turn(c.r, reflect.ValueOf(&all.lat).Elem())
		}
		if l := flow.Check(m, all.lat, known); !label.Right(all.lat) && !slices.Equal(l, told(m, all.lat, known)) {
			t.Fatalf("16.1: %+v tells %s", all.lat, text(l, 0))
		}
		flow.Check(all.m, all.lat, all.known)
	})
}

// R1: nodes whose operands are any numbers.
func TestAnyNodes(t *testing.T) {
	lat := lattice(t, chain)
	numbers := []int{math.MinInt, -2, -1, 0, 1, 2, 3, 4, 5, 6, 7, math.MaxInt}
	for i := range 5 {
		for _, a := range numbers {
			for _, b := range numbers {
				m := parsed(t, "module m;var l:low=0;proc p(h:high)pc low uses{}{l=1+2*h;}")
				n := &m.Procs[0].Body[0].E[i]
				n.A, n.B = a, b
				flow.Check(m, lat, nil)
				n.Kind = b
				flow.Check(m, lat, nil)
			}
		}
	}
}

// R1: statements that stand in one another, and an expression, deeper than a source can have them.
func TestDeep(t *testing.T) {
	lat := lattice(t, chain)
	m := parsed(t, "module m;var l:low=0;proc p(h:high)pc low uses{}{l=h;}")
	for range 1 << 15 {
		m.Procs[0].Body = []api.Stmt{{Kind: api.SIf, Body: m.Procs[0].Body}}
	}
	if got := text(flow.Check(m, lat, nil), 0); got != "49 DFlow l" {
		t.Errorf("R1: %s", got)
	}
	e := []api.Node{{Kind: api.NVar, Name: "h", A: -1, B: -1}}
	for i := range 1 << 15 {
		e = append(e, api.Node{Kind: api.NNeg, A: i, B: -1})
	}
	m.Procs[0].Body = []api.Stmt{{Kind: api.SSet, Name: "l", E: e}}
	if got := text(flow.Check(m, lat, nil), 0); got != "0 DFlow l" {
		t.Errorf("R1: %s", got)
	}
}
