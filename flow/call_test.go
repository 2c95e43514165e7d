package flow_test

import (
	"fmt"
	"strings"
	"testing"

	"aquifer/api"
	"aquifer/flow"
)

// 16.4: calls in which nothing is wrong; a result may be left.
func TestCalls(t *testing.T) {
	wantBodies(t, map[string]string{
		"call void();call a.any();call a.lows(l);call a.highs(h);call p(1,h);": "",
		"call l=a.lows(1);call e=p(pl,ph);call h=a.highs(h);call a.le=p(1,1);": "",
		"call h=a.lows(1);call a.hi=a.highs(a.hi);call pl=a.lows(pl);":         "",
		"let x:left=1;call x=p(1,1);if 1{call x=a.lows(l);}":                   "",
		"let void:low=1;call void();let a:low=1;call a=a.lows(a);":             "",
		"if h{call void();call a.any();call a.highs(1);call h=a.highs(l);}":    "",
		"if e{call h=a.highs(r);}while r{call a.any();}":                       "",
	})
	const m = "module m;proc p()pc low uses{}{call q();call p();}proc q()pc low uses{}{call p();call r(1);}var v:low=0;proc r(x:low)->low pc low uses{}{call v=r(v);}"
	wantTold(t, m, lattice(t, chain), nil, "")
}

// 16.4: procedures that there are not: nothing else is told of the call but what is told of its Args.
func TestNoProcedure(t *testing.T) {
	wantBodies(t, map[string]string{
		"call x();call any();":                      "0 DName x; 9 DName any",
		"call l();call pl();call u();call low();":   "0 DName l; 9 DName pl; 19 DName u; 28 DName low",
		"call a();call m();call b();call c();":      "0 DName a; 9 DName m; 18 DName b; 27 DName c",
		"call a.x();call a.lo();call a.void();":     "0 DName a.x; 11 DName a.lo; 23 DName a.void",
		"call c.p();call z.p();call m.void();":      "0 DName c.p; 11 DName z.p; 22 DName m.void",
		"call void.void();call odd.any();":          "0 DName void.void; 17 DName odd.any",
		"call x(y,1,h);call a.x(a.y);":              "7 DName y; 0 DName x; 23 DName a.y; 14 DName a.x",
		"call x=y();call l=a.y(h);call c.x=c.p(z);": "0 DName y; 11 DName a.y; 38 DName z; 25 DName c.p",
		"if h{call x();call l=c.p(h);}":             "5 DName x; 14 DName c.p",
		"let x:low=1;call x();":                     "12 DName x",
		"call a . x ( ) ;":                          "0 DName a.x",
	})
}

// 16.4: of a call of an import that shows nothing only its Args are told.
func TestNoFaceCalls(t *testing.T) {
	wantBodies(t, map[string]string{
		"call b.x();call d.x();call b.lows(h);":       "",
		"if h{call b.x(h);call l=b.x(h);}":            "",
		"call x=b.y();call c.x=d.y();call b.x=b.y();": "",
		"call b.x(y,h+z);call x=d.w(a.y);":            "9 DName y; 13 DName z; 27 DName a.y",
	})
}

// 16.4: numbers of arguments, and results that there are not; arguments and target are not looked at any more.
func TestArity(t *testing.T) {
	wantBodies(t, map[string]string{
		"call void(1);call void(l,h);":                           "0 DArity void; 13 DArity void",
		"call p();call p(1);call p(1,1,1);":                      "0 DArity p; 9 DArity p; 19 DArity p",
		"call a.lows();call a.lows(1,1);":                        "0 DArity a.lows; 14 DArity a.lows",
		"call l=void();call x=void();call a.x=a.any();":          "0 DArity void; 14 DArity void; 28 DArity a.any",
		"call b.x=void();call l=odd.p(1);":                       "0 DArity void; 16 DArity odd.p",
		"call l=void(h);call l=a.any(1,1);":                      "0 DArity void; 15 DArity a.any",
		"call p(h);call a.lows(h,h);call l=p();call x=p(h);":     "0 DArity p; 10 DArity a.lows; 27 DArity p; 38 DArity p",
		"call p(x);call x=void(y);":                              "7 DName x; 0 DArity p; 22 DName y; 10 DArity void",
		"if r{call own();}if h{call l=a.two(h);}":                "5 DArity own; 5 DPc own; 5 DEffect w; 22 DArity a.two; 22 DPc a.two; 22 DEffect r; 22 DEffect s",
		"if h{call l=void();call l=a.any(h);call a.highs();}":    "5 DArity void; 19 DArity a.any; 35 DArity a.highs",
		"if h{call a.lows(h,h);call x=a.lows();call h=p(h);}":    "5 DArity a.lows; 5 DPc a.lows; 22 DArity a.lows; 22 DPc a.lows; 38 DArity p; 38 DPc p",
		"call a.two(h,h,h);call own(h);call e=own(1,1,1);":       "0 DArity a.two; 0 DEffect r; 0 DEffect s; 18 DArity own; 18 DEffect w; 30 DArity own; 30 DEffect w",
		"call a . lows ( ) ;call own # x\n ( ) ;call\na.any(1);": "0 DArity a.lows; 19 DArity own; 19 DEffect w; 38 DArity a.any",
	})
}

// 16.4: procedures that may not be called under a pc.
func TestCallPc(t *testing.T) {
	wantBodies(t, map[string]string{
		"if e{call a.lows(1);}if r{call p(1,1);}":          "5 DPc a.lows; 26 DPc p",
		"if e{call own(1,1);}if r{call own(1,1);}":         "5 DEffect w; 25 DPc own; 25 DEffect w",
		"if l{call a.lows(1);}while b.x{call a.lows(1);}":  "",
		"while e{if r{call a.two(1,1);}}call a.lows(1);":   "13 DPc a.two; 13 DEffect r; 13 DEffect s",
		"if h{}else{call a.lows(h);}":                      "11 DPc a.lows; 11 DArg 0",
		"if e{if l{call a.lows(1);}}if x{call a.lows(1);}": "10 DPc a.lows; 30 DName x",
	})
	const m = "module m;proc p()pc high uses{}{call q();call r();call p();}proc q()pc low uses{}{call p();call r();}proc r()pc left uses{}{call q();}"
	wantTold(t, m, lattice(t, diamond), nil, "32 DPc q; 41 DPc r; 124 DPc q")
}

// 16.4: arguments; neither the pc nor the other arguments are joined with their labels.
func TestArguments(t *testing.T) {
	wantBodies(t, map[string]string{
		"call a.lows(h);call a.highs(h);":               "0 DArg 0",
		"call p(e,e);call p(l,h);call p(a.lo+e,b.x);":   "0 DArg 0; 24 DArg 0",
		"call own(e,l);call own(r,e);call own(1,h);":    "0 DEffect w; 14 DArg 0; 14 DArg 1; 14 DEffect w; 28 DArg 1; 28 DEffect w",
		"call a.two(e,r);call a.two(r,e);":              "0 DEffect r; 0 DEffect s; 16 DArg 0; 16 DArg 1; 16 DEffect r; 16 DEffect s",
		"call a.two(h,1);call a.two(1,h);":              "0 DArg 0; 0 DEffect r; 0 DEffect s; 16 DArg 1; 16 DEffect r; 16 DEffect s",
		"if e{call own(1,1);call own(e,l);}":            "5 DEffect w; 19 DEffect w",
		"if h{call a.highs(1);}if e{call own(r,1);}":    "27 DArg 0; 27 DEffect w",
		"call l=a.lows(h);call l=a.lows(e);":            "0 DArg 0; 17 DArg 0",
		"call p(x,h);call p(x+h,y);call p(-h,!h);":      "7 DName x; 19 DName x; 23 DName y; 12 DArg 0; 26 DArg 0",
		"let x:high=1;call a.lows(x);call a.lows(1+x);": "13 DArg 0; 28 DArg 0",
	})
	m := "module m;proc p(" + strings.Join(strings.Fields("a:low b:low c:low d:low e:low f:low g:low h:low i:low j:low k:low l:high m:low"), ",") + ")pc low uses{}{call p(a,l,l,l,l,l,l,l,l,l,l,l,l);}"
	var want []string
	for _, i := range strings.Fields("1 2 3 4 5 6 7 8 9 10 12") {
		want = append(want, "109 DArg "+i)
	}
	wantTold(t, m, lattice(t, chain), nil, strings.Join(want, "; "))
}

// 16.4: the Uses of the procedure that is called and those of the one that calls.
func TestCallEffects(t *testing.T) {
	lat := lattice(t, chain)
	a := []flow.Known{shows(t, "module a;proc f()pc low uses{d,b,d,a,c}{}proc g()pc low uses{}{}", lat)}
	for _, c := range []struct{ uses, want string }{
		{"", "a b c d"}, {"b", "a c d"}, {"d,a", "b c"}, {"c,c,x,b", "a d"}, {"a,b,c,d", ""}, {"d,c,b,a,d", ""}, {"f,g,aa", "a b c d"},
	} {
		head := "module m;import a;proc p()pc low uses{" + c.uses + "}{"
		var want []string
		for _, u := range strings.Fields(c.want) {
			want = append(want, fmt.Sprint(len(head), " DEffect ", u))
		}
		wantTold(t, head+"call a.f();call a.g();}", lat, a, strings.Join(want, "; "))
	}
}

// 16.4: the target of a call, as that of an assignment of the result.
func TestTargets(t *testing.T) {
	wantBodies(t, map[string]string{
		"call l=p(1,1);call r=p(1,1);call a.lo=p(1,1);":   "0 DFlow l; 14 DFlow r; 28 DFlow a.lo",
		"call l=a.highs(1);call e=a.highs(1);":            "0 DFlow l; 18 DFlow e",
		"call e=own(1,1);call l=own(1,1);":                "0 DEffect w; 16 DEffect w; 16 DFlow l",
		"call x=p(1,1);call a.x=p(1,1);call c.x=p(1,1);":  "0 DName x; 14 DName a.x; 30 DName c.x",
		"call own=p(1,1);call m.l=p(1,1);call p=p(1,1);":  "0 DName own; 16 DName m.l; 32 DName p",
		"call b.x=p(1,1);call d.x=a.highs(h);":            "",
		"call b.x=p(h,1);call b.x=own(1,1);":              "0 DArg 0; 16 DEffect w",
		"call pl=p(1,1);call ph=p(1,1);":                  "0 DFlow pl",
		"let x:low=1;call x=p(1,1);":                      "12 DFlow x",
		"let h:low=1;call h=a.highs(1);":                  "0 DTwice h; 12 DFlow h",
		"if r{call r=a.lows(1);call e=a.lows(1);}":        "5 DPc a.lows; 22 DPc a.lows; 22 DFlow e",
		"if r{call r=p(1,1);call h=p(1,1);}":              "5 DPc p; 5 DFlow r; 19 DPc p",
		"if h{call e=a.highs(1);call h=a.highs(1);}":      "5 DFlow e",
		"if r{call x=own(h,e);}if r{call l=own(h,e);}":    "5 DPc own; 5 DArg 0; 5 DArg 1; 5 DEffect w; 5 DName x; 27 DPc own; 27 DArg 0; 27 DArg 1; 27 DEffect w; 27 DFlow l",
		"call a . le = p(1,1);call a . # x\nlo = p(1,1);": "21 DFlow a.lo",
	})
}

// 16.4: a procedure of m itself is taken from its interface: its Uses rise, each once.
func TestOwnUses(t *testing.T) {
	const m = "module m;proc p()pc low uses{b}{call q();}proc q()pc low uses{d,b,c,d,a}{}"
	wantTold(t, m, lattice(t, chain), nil, "32 DEffect a; 32 DEffect c; 32 DEffect d")
}

// 16.4: a Known that is named like m, or not at all, has nothing to do with m's own names.
func TestOwnKnown(t *testing.T) {
	lat := lattice(t, chain)
	other := api.Face{Vars: []api.Var{{Name: "x", Label: "low"}}, Procs: []api.Sig{{Name: "q", Pc: "low"}}}
	known := []flow.Known{{Name: "m", Has: true, Face: other}, {Name: "", Has: true, Face: other}}
	wantTold(t, "module m;proc p()pc low uses{}{x=1;call q();m.x=1;call m.q();}", lat, known, "31 DName x; 35 DName q; 44 DName m.x; 50 DName m.q")
}
