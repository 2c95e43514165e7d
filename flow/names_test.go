package flow_test

import (
	"testing"

	"aquifer/flow"
)

// 16.2: names that denote something: their labels tell what.
func TestNames(t *testing.T) {
	wantBodies(t, map[string]string{
		"l=l;e=l;e=e;r=r;h=e+r;h=h;":     "",
		"l=e;l=r;l=h;e=r;e=h;r=e;":       "0 DFlow l; 4 DFlow l; 8 DFlow l; 12 DFlow e; 16 DFlow e; 20 DFlow r",
		"l=pl;ph=h;ph=1;pl=1;":           "",
		"l=ph;pl=e;":                     "0 DFlow l; 5 DFlow pl",
		"l=a.lo;e=a.le;h=a.hi;":          "",
		"l=a.le;e=a.hi;a.lo=e;a.le=h;":   "0 DFlow l; 7 DFlow e; 14 DFlow a.lo; 21 DFlow a.le",
		"a.lo=l;a.le=e;a.hi=h;a.hi=r;":   "",
		"l = a . le ; a # x\n . lo = e;": "0 DFlow l; 13 DFlow a.lo",
	})
}

// 16.2: names that denote nothing, as nodes and as targets.
func TestNoNames(t *testing.T) {
	wantBodies(t, map[string]string{
		"l=x;":               "2 DName x",
		"x=h;":               "0 DName x",
		"x=x;":               "2 DName x; 0 DName x",
		"lo=1;l=lo;":         "0 DName lo; 7 DName lo",
		"a=1;l=a;":           "0 DName a; 6 DName a",
		"l=own;own=1;":       "2 DName own; 6 DName own",
		"l=p;p=1;":           "2 DName p; 4 DName p",
		"l=u;u=1;":           "2 DName u; 4 DName u",
		"l=low;low=1;":       "2 DName low; 6 DName low",
		"l=m;m=1;":           "2 DName m; 4 DName m",
		"m.l=1;l=m.l;":       "0 DName m.l; 8 DName m.l",
		"a.x=1;l=a.x;":       "0 DName a.x; 8 DName a.x",
		"a.l=1;l=a.l;":       "0 DName a.l; 8 DName a.l",
		"a.two=1;l=a.two;":   "0 DName a.two; 10 DName a.two",
		"c.x=1;l=c.x;":       "0 DName c.x; 8 DName c.x",
		"z.x=1;l=z.x;":       "0 DName z.x; 8 DName z.x",
		"l.l=1;l=pl.pl;":     "0 DName l.l; 8 DName pl.pl",
		"odd.y=1;l=odd.p;":   "0 DName odd.y; 10 DName odd.p",
		"l=-(1+ a . x*2);":   "7 DName a.x",
		"skip; a\n. #\nx=1;": "6 DName a.x",
		"l=x+x;":             "2 DName x; 4 DName x",
	})
}

// 16.2: of an import that shows nothing nothing is told, and its names are Low.
func TestNoFaceNames(t *testing.T) {
	wantBodies(t, map[string]string{
		"l=b.x;b.x=h;b.lo=1;l=b.lo;":       "",
		"l=d.x;d.x=h;":                     "",
		"l=b.x+h;l=d.x-e;":                 "0 DFlow l; 8 DFlow l",
		"if b.x{l=1;}while d.x{l=1;}":      "",
		"if h{b.x=1;d.x=h;}":               "",
		"let x:low=b.x;call lows(b.x);":    "14 DName lows",
		"call a.lows(b.x);call a.lows(h);": "17 DArg 0",
		"b.x=y;d.x=c.x;":                   "4 DName y; 10 DName c.x",
	})
}

// 16.2: the local names, each from the end of its statement to the end of its block.
func TestScopes(t *testing.T) {
	wantBodies(t, map[string]string{
		"let x:left=1;e=x;l=x;":                           "17 DFlow l",
		"let x:low=x;":                                    "10 DName x",
		"x=1;let x:low=1;x=1;":                            "0 DName x",
		"l=x;let x:low=1;l=x;":                            "2 DName x",
		"let x:left=1;let y:low=x;let z:left=x;":          "13 DFlow y",
		"let x:left=h;x=h;":                               "0 DFlow x; 13 DFlow x",
		"if 1{let x:low=1;l=x;}l=x;":                      "24 DName x",
		"if 1{let x:low=1;}else{l=x;}":                    "25 DName x",
		"if 1{}else{let x:low=1;l=x;}l=x;":                "30 DName x",
		"while 1{let x:low=1;l=x;}x=1;":                   "25 DName x",
		"while x{let x:low=1;}":                           "6 DName x",
		"if 1{if 1{let x:low=1;}x=1;}":                    "23 DName x",
		"let x:low=1;if x{x=x;while x{l=x;}}l=x;":         "",
		"let x:low=1;if 1{let y:low=x;x=y;}y=x;":          "34 DName y",
		"if 1{let x:left=1;}if 1{let x:low=1;l=x;}":       "",
		"if 1{let x:left=1;}else{let x:low=1;l=x;}":       "",
		"call a.lows(x);let x:low=1;call a.lows(x);":      "12 DName x",
		"call x=a.lows(1);let x:left=1;call x=a.lows(1);": "0 DName x",
	})
	const m = "module m;proc p(x:low)pc low uses{}{let y:low=x;}proc q()pc low uses{}{x=y;}proc r(y:low)pc low uses{}{y=x;let x:low=1;}"
	wantTold(t, m, lattice(t, chain), nil, "73 DName y; 71 DName x; 105 DName x")
}

// 16.2: a later local name hides an earlier one, and a local name hides a variable of m.
func TestHiding(t *testing.T) {
	wantBodies(t, map[string]string{
		"let h:low=1;l=h;h=1;":                               "0 DTwice h",
		"let l:high=h;l=h;e=l;":                              "0 DTwice l; 17 DFlow e",
		"let h:low=h;":                                       "0 DTwice h; 0 DFlow h",
		"let l:low=l;":                                       "0 DTwice l",
		"let ph:low=1;l=ph;ph=1;":                            "0 DTwice ph",
		"let pl:high=ph;l=pl;":                               "0 DTwice pl; 15 DFlow l",
		"let x:low=1;let x:left=e;l=x;":                      "12 DTwice x; 25 DFlow l",
		"let x:left=1;let x:low=x;":                          "13 DTwice x; 13 DFlow x",
		"let x:left=1;let x:low=1;l=x;let x:high=h;x=h;l=x;": "13 DTwice x; 29 DTwice x; 46 DFlow l",
		"let x:low=1;if 1{let x:left=e;l=x;}l=x;":            "17 DTwice x; 30 DFlow l",
		"let x:left=1;if 1{let x:low=1;l=x;}l=x;":            "18 DTwice x; 35 DFlow l",
		"if 1{let h:low=1;l=h;}l=h;":                         "5 DTwice h; 22 DFlow l",
		"if 1{let ph:low=1;l=ph;}else{l=ph;}":                "5 DTwice ph; 29 DFlow l",
		"let a:left=1;a.lo=a;l=a.lo;a=e;":                    "13 DFlow a.lo",
		"let lo:high=1;l=a.lo;a.lo=lo;":                      "21 DFlow a.lo",
		"let b:high=1;l=b.x;b.x=b;l=b;":                      "25 DFlow l",
		"let c:high=1;l=c.x;":                                "15 DName c.x",
	})
	const m = "module m;var x:high=0;var y:low=0;proc p(x:low)pc low uses{}{y=x;}proc q(y:high)pc low uses{}{y=x;}proc r()pc low uses{}{y=x;}"
	wantTold(t, m, lattice(t, chain), nil, "121 DFlow y")
}

// 16.2: lets whose name is there already; the let counts all the same.
func TestTwice(t *testing.T) {
	wantBodies(t, map[string]string{
		"let l:low=1;":                                     "0 DTwice l",
		"let pl:low=1;":                                    "0 DTwice pl",
		"let x:low=1;let x:low=1;let x:low=1;":             "12 DTwice x; 24 DTwice x",
		"if 1{let x:low=1;let x:low=1;}":                   "17 DTwice x",
		"let x:low=1;while 1{if 1{let x:low=1;}}":          "25 DTwice x",
		"if 1{let x:low=1;}let x:low=1;":                   "",
		"if 1{let x:low=1;}else{let x:low=1;}":             "",
		"while 1{let x:low=1;}while 1{let x:low=1;}":       "",
		"if 1{if 1{let x:low=1;}let x:low=1;}let x:low=1;": "",
		"let own:low=1;let p:low=own;":                     "",
		"let a:low=1;let b:low=1;let m:low=1;":             "",
		"let lo:low=1;let hi:low=1;let x:low=1;":           "",
		"let two:low=1;let u:low=1;let low:low=1;":         "",
		"x=1;let x:low=1;":                                 "0 DName x",
	})
	lat := lattice(t, chain)
	wantTold(t, "module m;proc p(x:low)pc low uses{}{let y:low=1;}proc q(y:low)pc low uses{}{let x:low=1;}", lat, nil, "")
	wantTold(t, "module m;proc p()pc low uses{}{let x:low=1;}var x:low=0;", lat, nil, "31 DTwice x")
}

// 16.2: labels of lets that there are not.
func TestLetLabels(t *testing.T) {
	wantBodies(t, map[string]string{
		"let x:no=h;":                 "0 DLabel no",
		"let x:no=1;l=x;e=x;h=x;x=h;": "0 DLabel no; 11 DFlow l; 15 DFlow e",
		"if h{let x:no=h;}":           "5 DLabel no",
		"let l:none=x;l=h;":           "11 DName x; 0 DTwice l; 0 DLabel none",
		"let x:x=1;let y:h=1;":        "0 DLabel x; 10 DLabel h",
		"let x:lo=1;let y:lows=1;":    "0 DLabel lo; 11 DLabel lows",
	})
}

// chapter 16: a label of an interface that the lattice does not have counts as High.
func TestOddLabels(t *testing.T) {
	wantBodies(t, map[string]string{
		"odd.x=h;h=odd.x;":                       "",
		"l=odd.x;e=odd.x;r=odd.x;":               "0 DFlow l; 8 DFlow e; 16 DFlow r",
		"if odd.x{e=1;h=1;}":                     "9 DFlow e",
		"call odd.p(h);if h{call odd.p(odd.x);}": "",
		"call h=odd.q();call odd.x=odd.q();":     "",
		"call e=odd.q();call l=odd.q();":         "0 DFlow e; 15 DFlow l",
	})
	lat := lattice(t, "labels a;")
	odd := []flow.Known{shows(t, "module odd;var x:b=0;proc p(x:c)->d pc e uses{}{}", lattice(t, "labels a<b<c<d<e;"))}
	wantTold(t, "module m;import odd;var y:a=0;proc p()pc a uses{}{y=odd.x;odd.x=y;call y=odd.p(y);}", lat, odd, "")
}
