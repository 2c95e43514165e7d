package show_test

import (
	"math/rand"
	"reflect"
	"testing"

	"aquifer/api"
	"aquifer/parse"
	"aquifer/show"
)

// parsed returns the tree of a source.
func parsed(t *testing.T, s string) api.Module {
	t.Helper()
	m, e, at := parse.Module(s)
	if e != api.OK {
		t.Fatal("no source:", s, e, at)
	}
	return m
}

// wantSame checks what Same tells of two modules, both ways.
func wantSame(t *testing.T, a, b api.Module, want bool) {
	t.Helper()
	if show.Same(a, b) != want || show.Same(b, a) != want {
		t.Errorf("13.1: Same(%+v, %+v) is not %v", a, b, want)
	}
}

// whole is a source with each part of the grammar.
const whole = `module m; import a; import b;
var x:low=-5; var y:high=0; var z:low=7;
proc p() pc low uses {} {}
proc q(a:low,b:high) -> high pc low uses {r,s,r} {
	let z:high=1+2*x<a.v; a.v=-!z; w=(1-2)/(3%x)==4; result=0; x=0<=--y;
	call p(); call b.p(); call x=a.f(1,x%2==y); call a.x=f(-1); emit r; skip;
	if x {skip;} else {emit r; if a.b {} else {skip;}} if 1 {} while x<=3 {x=x-1; while 0 {}}
}
proc p(x:x) pc high uses {e} {result=1;}`

// 13.1: the example of the chapter.
func TestSameExample(t *testing.T) {
	for _, s := range []string{"module m;", whole} {
		wantSame(t, parsed(t, s), parsed(t, " "+s), true)
	}
}

// 13.1: a module is the Same as itself wherever its parts stand, and not the Same as one with any other field.
func TestSameFields(t *testing.T) {
	m := parsed(t, whole)
	wantSame(t, m, m, true)
	wantSame(t, m, bare(m), true)
	count := map[bool]int{}
	turned(m, func(to api.Module) {
		same := equal(m, to)
		wantSame(t, m, to, same)
		count[same]++
	})
	if count[true] < 500 || count[false] < 5000 {
		t.Error("too few of one kind:", count)
	}
}

// 13.1: each place alone may be another one.
func TestSamePlaces(t *testing.T) {
	m := copied(parsed(t, whole), true)
	n := 0
	for i, v := range fields(reflect.ValueOf(&m).Elem(), nil) {
		if v.Kind() != reflect.Int {
			continue
		}
		to := copied(m, true)
		fields(reflect.ValueOf(&to).Elem(), nil)[i].SetInt(-77)
		if equal(m, to) {
			n++
			wantSame(t, m, to, true)
		}
	}
	if n < 70 {
		t.Error("too few places:", n)
	}
}

// 13.1: no list and an empty one are equal, at every level.
func TestSameEmpty(t *testing.T) {
	none := api.Module{Procs: []api.Proc{{Body: []api.Stmt{{Args: [][]api.Node{nil}, Body: []api.Stmt{{}}}}}}}
	empty := api.Module{Imports: []api.Import{}, Vars: []api.Var{}, Procs: []api.Proc{{
		Params: []api.Param{}, Uses: []string{}, Body: []api.Stmt{{
			E: []api.Node{}, Args: [][]api.Node{{}}, Else: []api.Stmt{},
			Body: []api.Stmt{{E: []api.Node{}, Args: [][]api.Node{}, Body: []api.Stmt{}, Else: []api.Stmt{}}},
		}},
	}}}
	wantSame(t, none, empty, true)
	wantSame(t, api.Module{}, api.Module{Procs: []api.Proc{}}, true)
	wantSame(t, api.Module{}, api.Module{Procs: []api.Proc{{}}}, false)
	wantSame(t, api.Module{Vars: []api.Var{{}}}, api.Module{Imports: []api.Import{{}}}, false)
	wantSame(t, none, api.Module{Procs: []api.Proc{{Body: []api.Stmt{{Body: []api.Stmt{{}}}}}}}, false)
}

// 13.1: lists in another order, and modules that no source has.
func TestSameWrong(t *testing.T) {
	wantSame(t, parsed(t, "module m;import a;import b;"), parsed(t, "module m;import b;import a;"), false)
	wantSame(t, parsed(t, "module m;var x:l=1;var y:l=1;"), parsed(t, "module m;var y:l=1;var x:l=1;"), false)
	wantSame(t, parsed(t, "module m;proc p(a:l,b:l)pc l uses{}{}"), parsed(t, "module m;proc p(b:l,a:l)pc l uses{}{}"), false)
	wantSame(t, parsed(t, "module m;proc p()pc l uses{e,f}{}"), parsed(t, "module m;proc p()pc l uses{f,e}{}"), false)
	wantSame(t, parsed(t, "module m;var x:l=1;proc p()pc l uses{}{}"), parsed(t, "module m;proc p()pc l uses{}{}var x:l=1;"), true)
	wantSame(t, parsed(t, "module m;var x:l=-0;"), parsed(t, "module m;var x:l=0;"), true)
	wantSame(t, parsed(t, "module m;proc p()pc l uses{}{x=(1)+((2*3));}"), parsed(t, "module m;proc p()pc l uses{}{x=1+2*3;}"), true)
	wantSame(t, parsed(t, "module m;proc p()pc l uses{}{if 1{}else{}}"), parsed(t, "module m;proc p()pc l uses{}{if 1{}}"), true)

	garbage := body(api.Stmt{Kind: -9, E: []api.Node{{Kind: 99, A: 5, B: -5}}, Mod: "\xff"})
	wantSame(t, garbage, copied(garbage, true), true)
	turned(garbage, func(to api.Module) { wantSame(t, garbage, to, equal(garbage, to)) })
}

// 13.1: random modules against one another.
func TestSameRandom(t *testing.T) {
	r := rand.New(rand.NewSource(21))
	for range 300 {
		m := (&source{r, r.Intn(60)}).module()
		wantSame(t, m, copied(m, true), true)
		wantSame(t, m, bare(m), true)
		other := (&source{r, r.Intn(60)}).module()
		wantSame(t, m, other, equal(m, other))
	}
}

// nested returns a module of that many blocks, one inside the other.
func nested(blocks int, last []api.Stmt) api.Module {
	for range blocks {
		last = []api.Stmt{{Kind: api.SWhile, E: []api.Node{number(1)}, Body: last}}
	}
	return body(last...)
}

// R1: Same ends for modules that are nested as deep as an argument may be.
func TestSameDeep(t *testing.T) {
	const levels = 1<<16 - 10
	skip := []api.Stmt{{Kind: api.SSkip}}
	if !show.Same(nested(levels, skip), nested(levels, skip)) {
		t.Error("13.1: a deep module is not the Same as itself")
	}
	if show.Same(nested(levels, skip), nested(levels, nil)) || show.Same(nested(levels, nil), nested(levels-1, nil)) {
		t.Error("13.1: deep modules are the Same")
	}
}
