package flow_test

import (
	"fmt"
	"strings"
	"testing"

	"aquifer/api"
	"aquifer/label"
)

// 16.3: the label of an expression.
func TestExpressions(t *testing.T) {
	wantBodies(t, map[string]string{
		"l=1;l=0;l=-1;l=!0;l=1+2*3;":                                   "",
		"e=e+l;e=l-e;e=e*1;e=1/e;e=e%e;e=e==l;e=l<e;e=e<=e;e=-e;e=!e;": "",
		"l=e+l;": "0 DFlow l", "l=l-e;": "0 DFlow l", "l=e*1;": "0 DFlow l", "l=1/e;": "0 DFlow l", "l=e%e;": "0 DFlow l",
		"l=e==l;": "0 DFlow l", "l=l<e;": "0 DFlow l", "l=e<=e;": "0 DFlow l", "l=-e;": "0 DFlow l", "l=!e;": "0 DFlow l",
		"e=e+r;": "0 DFlow e", "r=e+r;": "0 DFlow r", "h=e+r;": "",
		"l=l+l*(l-(l<(l+0*h)));":   "0 DFlow l",
		"e=((((e))))+-(-(!!e));":   "",
		"l=h-h;l=0*h;l=h==h;":      "0 DFlow l; 6 DFlow l; 12 DFlow l",
		"e=1+e+1;r=1+(e+1);":       "8 DFlow r",
		"l=x+l;l=-x;":              "2 DName x; 9 DName x",
		"l=x+e;e=x+e;":             "2 DName x; 0 DFlow l; 8 DName x",
		"l=a.lo+b.x;l=a.lo+a.le;":  "11 DFlow l",
		"e=a.le*(pl+1);e=a.le*ph;": "14 DFlow e",
	})
}

// 16.3: lets, assignments and results under the pc of a procedure and of conditions.
func TestPc(t *testing.T) {
	wantBodies(t, map[string]string{
		"if l{l=1;}if e{e=1;}if h{h=1;}":                    "",
		"if e{l=1;r=1;h=1;}":                                "5 DFlow l; 9 DFlow r",
		"while e{l=1;r=1;h=1;}":                             "8 DFlow l; 12 DFlow r",
		"if e{}else{l=1;e=1;}":                              "11 DFlow l",
		"if e{e=r;h=r;}":                                    "5 DFlow e",
		"if e{if r{e=1;r=1;h=1;}e=1;r=1;}r=1;l=1;":          "10 DFlow e; 14 DFlow r; 27 DFlow r",
		"while e{while r{e=1;r=1;h=1;}e=1;r=1;}":            "16 DFlow e; 20 DFlow r; 33 DFlow r",
		"if h{while l{l=1;if 0{}else{e=1;}}}":               "13 DFlow l; 28 DFlow e",
		"if l{if e{}e=1;l=1;}else{if h{}l=1;}l=1;":          "",
		"if e{let x:left=1;let y:low=1;let z:right=1;}":     "18 DFlow y; 30 DFlow z",
		"if e{result=1;}if r{result=1;}if h{result=1;}":     "20 DFlow result; 35 DFlow result",
		"while h{b.x=1;a.hi=1;a.le=1;}":                     "21 DFlow a.le",
		"if h{x=1;}":                                        "5 DName x",
		"let x:high=1;if x{let y:low=1;l=1;}l=1;":           "18 DFlow y; 30 DFlow l",
		"if h{skip;emit u;}":                                "",
		"if x{l=1;}while y{l=1;}":                           "3 DName x; 16 DName y",
		"while 1{l=h;}while h{}l=1;":                        "8 DFlow l",
		"if e==r{h=1;e=1;}if e{}else{if r{}else{h=1;r=1;}}": "12 DFlow e; 43 DFlow r",
	})
	const m = "module m;var l:low=0;var e:left=0;var h:high=0;proc p()->low pc left uses{}{l=1;e=1;h=1;if e{l=1;e=1;}result=1;let x:low=1;}proc q()->high pc high uses{}{e=1;h=1;result=h;}proc r()pc low uses{}{l=1;}"
	wantTold(t, m, lattice(t, diamond), nil, "76 DFlow l; 93 DFlow l; 102 DFlow result; 111 DFlow x; 154 DFlow e")
}

// 16.3: what result is given.
func TestResults(t *testing.T) {
	wantBodies(t, map[string]string{
		"result=1;result=l;result=e;": "",
		"result=r;result=h;":          "0 DFlow result; 9 DFlow result",
		"result=x;":                   "7 DName x",
		"result=x+h;":                 "7 DName x; 0 DFlow result",
	})
	lat := lattice(t, diamond)
	const q = "module m;proc p(h:high)pc low uses{}{"
	wantTold(t, q+"result=1;}", lat, nil, "37 DArity result")
	wantTold(t, q+"result=h;}", lat, nil, "37 DArity result")
	wantTold(t, q+"if h{result=x;}}", lat, nil, "49 DName x; 42 DArity result")
	wantTold(t, q+"}proc r()->low pc low uses{}{result=1;}proc s()pc low uses{}{result=1;}", lat, nil, "98 DArity result")
}

// 16.3, 16.4: a procedure without a result has none either where the empty label is one of the lattice's.
func TestEmptyLabel(t *testing.T) {
	lat, e := label.Make([]api.Param{{Name: "", Label: "high"}})
	if e != api.OK || !label.Right(lat) || lat.Names[lat.Low] != "" {
		t.Fatalf("14.1: %+v %d", lat, e)
	}
	const m = "module m;var h:high=0;proc p()pc high uses{}{result=h;call h=p();call p();h=h;}"
	wantTold(t, m, lat, nil, "45 DArity result; 54 DArity p")
}

// 16.3: effects that a procedure says, in any order and again, and that it doesn't.
func TestEmit(t *testing.T) {
	wantBodies(t, map[string]string{
		"emit u;emit v;emit u;":       "",
		"emit w;emit x;emit l;":       "0 DEffect w; 7 DEffect x; 14 DEffect l",
		"if h{emit u;emit w;}":        "12 DEffect w",
		"emit uu;emit r;emit b;":      "0 DEffect uu; 8 DEffect r; 15 DEffect b",
		"skip;while 0{skip;}if h{}":   "",
		"let w:low=1;emit w;emit w;":  "12 DEffect w; 19 DEffect w",
		"call p(1,1);emit v;emit vv;": "19 DEffect vv",
	})
	const m = "module m;proc p()pc low uses{b,a,b}{emit a;emit b;emit c;}proc q()pc low uses{}{emit a;}proc r()pc low uses{c}{emit c;emit a;}"
	wantTold(t, m, lattice(t, chain), nil, "50 DEffect c; 80 DEffect a; 118 DEffect a")
}

// every returns diagnostics at each place from one on, up to another one.
func every(from, to, step int, what string) string {
	var l []string
	for at := from; at < to; at += step {
		l = append(l, fmt.Sprint(at, " ", what))
	}
	return strings.Join(l, "; ")
}

// chapter 16: as many levels, and as long bodies and expressions, as a source can have.
func TestLarge(t *testing.T) {
	wantBody(t, strings.Repeat("if l{while l{", 18)+"if h{l=1;l=((h));}"+strings.Repeat("}}", 18), "239 DFlow l; 243 DFlow l")
	wantBody(t, "l=!"+strings.Repeat("-(!", 12)+"-(h)"+strings.Repeat(")", 12)+";", "0 DFlow l")
	wantBody(t, strings.Repeat("l=h;", 1900), every(0, 7600, 4, "DFlow l"))
	wantBody(t, strings.Repeat("l=z;", 1900), every(2, 7602, 4, "DName z"))
	wantBody(t, strings.Repeat("let x:low=l;", 600), every(12, 7200, 12, "DTwice x"))
	wantBody(t, "l=h"+strings.Repeat("+l", 3800)+";", "0 DFlow l")
	wantBody(t, "call a.any(l"+strings.Repeat(",l", 3700)+");", "0 DArity a.any")
}
