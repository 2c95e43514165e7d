package show_test

import (
	"math"
	"math/rand"
	"reflect"
	"runtime/debug"
	"strings"
	"testing"

	"aquifer/api"
	"aquifer/parse"
	"aquifer/show"
)

func number(n int) api.Node {
	return api.Node{Kind: api.NNum, Num: n, A: -1, B: -1}
}

func name(mod, n string) api.Node {
	return api.Node{Kind: api.NVar, Mod: mod, Name: n, A: -1, B: -1}
}

func op(kind, a, b int) api.Node {
	return api.Node{Kind: kind, A: a, B: b}
}

// body returns a module with these statements.
func body(l ...api.Stmt) api.Module {
	return api.Module{Name: "m", Procs: []api.Proc{{Name: "p", Pc: "l", Body: l}}}
}

// result returns a module with an assignment of an expression.
func result(l ...api.Node) api.Module {
	return body(api.Stmt{Kind: api.SResult, E: l})
}

const (
	head = "module m ; proc p ( ) pc l uses { } { "
	tail = " }"
)

// wantBody checks the text of statements.
func wantBody(t *testing.T, s, want string) {
	t.Helper()
	wantText(t, parsed(t, "module m;proc p()pc l uses{}{"+s+"}"), head+want+tail)
}

// wantExpr checks the text of an expression, in each statement that has one.
func wantExpr(t *testing.T, s, want string) {
	t.Helper()
	wantBody(t, "x="+s+";", "x = "+want+" ;")
	wantBody(t, "let x:l="+s+";", "let x : l = "+want+" ;")
	wantBody(t, "result="+s+";", "result = "+want+" ;")
	wantBody(t, "if "+s+"{}while "+s+"{}", "if "+want+" { } while "+want+" { }")
	wantBody(t, "call f("+s+");call x=f(1,"+s+","+s+");", "call f ( "+want+" ) ; call x = f ( 1 , "+want+" , "+want+" ) ;")
}

// 13.2: the examples of the chapter.
func TestPrintExamples(t *testing.T) {
	wantText(t, api.Module{Name: "m"}, "module m ;")
	wantExpr(t, "1+2+3", "( 1 + 2 ) + 3")
}

// 13.2: what stands outside the procedures; the variables come before the procedures, wherever they stood.
func TestPrintModule(t *testing.T) {
	for s, want := range map[string]string{
		" # m\nmodule  mm;":                                                       "module mm ;",
		"module m;import b;import a;":                                             "module m ; import b ; import a ;",
		"module m;import m;import m;":                                             "module m ; import m ; import m ;",
		"module m;var x:l=-5;":                                                    "module m ; var x : l = - 5 ;",
		"module m;var x:l=0;var x:h=-0;":                                          "module m ; var x : l = 0 ; var x : h = 0 ;",
		"module m;var x:l=999999999;":                                             "module m ; var x : l = 999999999 ;",
		"module m;var x:l=- 999999999;":                                           "module m ; var x : l = - 999999999 ;",
		"module m;import a;var x:l=1;":                                            "module m ; import a ; var x : l = 1 ;",
		"module m;proc p()pc l uses{}{}":                                          "module m ; proc p ( ) pc l uses { } { }",
		"module m;proc p()->h pc l uses{}{}":                                      "module m ; proc p ( ) -> h pc l uses { } { }",
		"module m;proc p(b:l)pc l uses{e}{}":                                      "module m ; proc p ( b : l ) pc l uses { e } { }",
		"module m;proc p(b:l,a:h,b:b)->p pc p uses{f,e,f}{skip;}":                 "module m ; proc p ( b : l , a : h , b : b ) -> p pc p uses { f , e , f } { skip ; }",
		"module m;proc q()pc l uses{}{}var x:l=1;proc p()pc h uses{}{}var a:l=2;": "module m ; var x : l = 1 ; var a : l = 2 ; proc q ( ) pc l uses { } { } proc p ( ) pc h uses { } { }",
	} {
		wantText(t, parsed(t, s), want)
	}
}

// 13.2: each statement, with its target, names and blocks there and not there.
func TestPrintStatements(t *testing.T) {
	wantText(t, body(), "module m ; proc p ( ) pc l uses { } { }")
	for s, want := range map[string]string{
		"skip;":                 "skip ;",
		"skip;skip;":            "skip ; skip ;",
		"let x:l=1;":            "let x : l = 1 ;",
		"x=1;":                  "x = 1 ;",
		"a.x=b.y;":              "a . x = b . y ;",
		"result=y;":             "result = y ;",
		"emit e;":               "emit e ;",
		"call f();":             "call f ( ) ;",
		"call a.f();":           "call a . f ( ) ;",
		"call x=f();":           "call x = f ( ) ;",
		"call a.x=f(1);":        "call a . x = f ( 1 ) ;",
		"call x=b.f(1,y);":      "call x = b . f ( 1 , y ) ;",
		"call a.x=b.f(-1,2,3);": "call a . x = b . f ( - 1 , 2 , 3 ) ;",
		"while x{}":             "while x { }",
		"while x{skip;}skip;":   "while x { skip ; } skip ;",
	} {
		wantBody(t, s, want)
	}
}

// 13.2: an else is written only if it has statements.
func TestPrintElse(t *testing.T) {
	for s, want := range map[string]string{
		"if x{}":                          "if x { }",
		"if x{}else{}":                    "if x { }",
		"if x{skip;}else{}":               "if x { skip ; }",
		"if x{}else{skip;}":               "if x { } else { skip ; }",
		"if x{skip;}else{emit e;skip;}":   "if x { skip ; } else { emit e ; skip ; }",
		"if x{if y{}}else{skip;}":         "if x { if y { } } else { skip ; }",
		"if x{if y{}else{skip;}}else{}":   "if x { if y { } else { skip ; } }",
		"if x{}else{if y{}else{}}":        "if x { } else { if y { } }",
		"if x{}else{if y{}else{skip;}}":   "if x { } else { if y { } else { skip ; } }",
		"if x{while 1{}}else{while 2{}}":  "if x { while 1 { } } else { while 2 { } }",
		"if x{}if y{}else{skip;}if z{}":   "if x { } if y { } else { skip ; } if z { }",
		"while x{if y{}else{}}if(z){ }  ": "while x { if y { } } if z { }",
	} {
		wantBody(t, s, want)
	}
}

// 13.2: an operand is enclosed unless it is a number or a name; the whole expression never is.
func TestPrintOperands(t *testing.T) {
	for s, want := range map[string]string{
		"0": "0", "999999999": "999999999", "y": "y", "a.y": "a . y", "((1))": "1", "(((a.y)))": "a . y",
		"-1": "- 1", "!y": "! y", "-a.y": "- a . y", "-(1)": "- 1", "--1": "- ( - 1 )", "-!-y": "- ( ! ( - y ) )", "!(a.y)": "! a . y",
		"(1+2)": "1 + 2", "1+2*3": "1 + ( 2 * 3 )", "1*2+3": "( 1 * 2 ) + 3", "1+(2+3)": "1 + ( 2 + 3 )", "(1+2)*3": "( 1 + 2 ) * 3", "1-2-3-4": "( ( 1 - 2 ) - 3 ) - 4",
		"-1*2": "( - 1 ) * 2", "-(1*2)": "- ( 1 * 2 )", "1--2": "1 - ( - 2 )", "1+2<=a.x-4": "( 1 + 2 ) <= ( a . x - 4 )", "(1<2)==!3": "( 1 < 2 ) == ( ! 3 )", "a.x*b.y": "a . x * b . y",
	} {
		wantExpr(t, s, want)
	}
	for kind := api.NAdd; kind <= api.NLe; kind++ {
		sign := signs[kind]
		wantText(t, result(number(1), name("", "x"), op(kind, 0, 1)), head+"result = 1 "+sign+" x ;"+tail)
		wantText(t, result(name("a", "x"), number(0), op(kind, 0, 1)), head+"result = a . x "+sign+" 0 ;"+tail)
		for inner := api.NAdd; inner <= api.NLe; inner++ {
			in := "( 2 " + signs[inner] + " x )"
			wantText(t, result(number(2), name("", "x"), op(inner, 0, 1), number(3), op(kind, 2, 3)), head+"result = "+in+" "+sign+" 3 ;"+tail)
			wantText(t, result(number(3), number(2), name("", "x"), op(inner, 1, 2), op(kind, 0, 3)), head+"result = 3 "+sign+" "+in+" ;"+tail)
		}
		for inner := api.NNeg; inner <= api.NNot; inner++ {
			in := "( " + signs[inner] + " 2 )"
			wantText(t, result(number(2), op(inner, 0, -1), number(2), op(inner, 2, -1), op(kind, 1, 3)), head+"result = "+in+" "+sign+" "+in+" ;"+tail)
			wantText(t, result(number(2), number(4), op(kind, 0, 1), op(inner, 2, -1)), head+"result = "+signs[inner]+" ( 2 "+sign+" 4 ) ;"+tail)
		}
	}
}

// 13.2: the text tells nothing of the places, and depends on none of them.
func TestPrintPlaces(t *testing.T) {
	m := copied(parsed(t, whole), true)
	text := told(m)
	wantText(t, m, text)
	wantText(t, bare(m), text)
	for i, v := range fields(reflect.ValueOf(&m).Elem(), nil) {
		to := copied(m, true)
		f := fields(reflect.ValueOf(&to).Elem(), nil)[i]
		for _, at := range []int{-1, 0, 1, 5000, math.MaxInt, math.MinInt} {
			if v.Kind() != reflect.Int {
				continue
			}
			if f.SetInt(int64(at)); equal(m, to) {
				wantText(t, to, text)
			}
		}
	}
}

// 13.2: one field or list of a module is another one: with a text that is parsed to it, or ErrArg.
func TestPrintTurned(t *testing.T) {
	count := map[bool]int{}
	for _, s := range []string{whole, "module m;", "module m;proc p()pc l uses{}{call f(1-(2-3),-x);if 1{}else{skip;}}"} {
		turned(parsed(t, s), func(m api.Module) { count[wantModel(t, m)]++ })
	}
	if count[true] < 2000 || count[false] < 5000 {
		t.Error("too few of one kind:", count)
	}
}

// places returns a module with a name in each place that has one.
func places(n string) []api.Module {
	proc := func(p api.Proc) api.Module { return api.Module{Name: "m", Procs: []api.Proc{p}} }
	one := []api.Node{number(1)}
	return []api.Module{
		{Name: n}, {Name: "m", Imports: []api.Import{{Name: "a"}, {Name: n}}},
		{Name: "m", Vars: []api.Var{{Name: n, Label: "l"}}}, {Name: "m", Vars: []api.Var{{Name: "x", Label: n}}},
		proc(api.Proc{Name: n, Pc: "l"}), proc(api.Proc{Name: "p", Pc: n}), proc(api.Proc{Name: "p", Pc: "l", Has: true, Result: n}), proc(api.Proc{Name: "p", Pc: "l", Uses: []string{"e", n}}),
		proc(api.Proc{Name: "p", Pc: "l", Params: []api.Param{{Name: n, Label: "l"}}}), proc(api.Proc{Name: "p", Pc: "l", Params: []api.Param{{Name: "a", Label: n}}}),
		body(api.Stmt{Kind: api.SLet, Name: n, Label: "l", E: one}), body(api.Stmt{Kind: api.SLet, Name: "x", Label: n, E: one}), body(api.Stmt{Kind: api.SEmit, Name: n}),
		body(api.Stmt{Kind: api.SSet, Name: n, E: one}), body(api.Stmt{Kind: api.SSet, Mod: n, Name: "x", E: one}), body(api.Stmt{Kind: api.SCall, To: n}), body(api.Stmt{Kind: api.SCall, ToMod: n, To: "f"}),
		body(api.Stmt{Kind: api.SCall, Has: true, Name: n, To: "f"}), body(api.Stmt{Kind: api.SCall, Has: true, Mod: n, Name: "x", To: "f"}), result(name("", n)), result(name(n, "x")), result(name("a", n)),
		body(api.Stmt{Kind: api.SCall, To: "f", Args: [][]api.Node{one, {name("", n)}}}), body(api.Stmt{Kind: api.SIf, E: []api.Node{name("", n)}}), body(api.Stmt{Kind: api.SWhile, E: []api.Node{name(n, "x")}}),
		body(api.Stmt{Kind: api.SIf, E: one, Body: []api.Stmt{{Kind: api.SEmit, Name: n}}}), body(api.Stmt{Kind: api.SIf, E: one, Else: []api.Stmt{{Kind: api.SEmit, Name: n}}}),
	}
}

// 13.2: names as the lexer knows them, in each place of a name; only the name of a module of a qname may be left out.
func TestPrintNames(t *testing.T) {
	for _, n := range []string{"a", "z", "a1", "a_", "ab_9z", "ifs", "modul", "results", strings.Repeat("z", api.MaxName)} {
		for _, m := range places(n) {
			if !wantModel(t, m) {
				t.Errorf("13.2: no text with the name %s: %s", n, told(m))
			}
		}
	}
	r := strings.Repeat
	for _, n := range append(wrongNames(), r("a", api.MaxText+1), r(" ", api.MaxText)+"a", "a"+r(" ", api.MaxText), r("a ", api.MaxText)) {
		for _, m := range places(n) {
			wantError(t, m, api.ErrArg)
		}
	}
	left := 0
	for _, m := range places("") {
		if wantModel(t, m) {
			left++
		}
	}
	if left != 5 {
		t.Error("13.2: a name may be left out at", left, "places")
	}
}

// 13.2: numbers as the lexer knows them; only that of a variable may be negative.
func TestPrintNumbers(t *testing.T) {
	for n, want := range map[int]string{0: "0", 1: "1", 10: "10", 999999999: "999999999"} {
		wantText(t, result(number(n)), head+"result = "+want+" ;"+tail)
		wantText(t, api.Module{Name: "m", Vars: []api.Var{{Name: "x", Label: "l", Init: n}}}, "module m ; var x : l = "+want+" ;")
	}
	for n, want := range map[int]string{-1: "1", -10: "10", -999999999: "999999999"} {
		wantError(t, result(number(n)), api.ErrArg)
		wantText(t, api.Module{Name: "m", Vars: []api.Var{{Name: "x", Label: "l", Init: n}}}, "module m ; var x : l = - "+want+" ;")
	}
	for _, n := range []int{1000000000, 1 << 40, math.MaxInt, -1000000000, math.MinInt, math.MinInt + 1} {
		wantError(t, result(number(n)), api.ErrArg)
		wantError(t, result(number(1), number(n), op(api.NAdd, 0, 1)), api.ErrArg)
		wantError(t, api.Module{Name: "m", Vars: []api.Var{{Name: "x", Label: "l", Init: n}}}, api.ErrArg)
	}
}

// 13.2: lists of nodes that are no expression.
func TestPrintNodes(t *testing.T) {
	one, two := number(1), number(2)
	for _, l := range [][]api.Node{
		{}, {one, one}, {one, one, one}, {{}}, {{Kind: -1}}, {{Kind: 13, A: -1, B: -1}}, {{Kind: api.NNum}}, {{Kind: api.NVar, Name: "x"}},
		{{Kind: api.NNum, Num: 1, A: -1}}, {{Kind: api.NNum, Num: 1, B: -1}}, {{Kind: api.NNum, Num: 1, A: -1, B: -2}}, {{Kind: api.NNum, Num: 1, Mod: "a", A: -1, B: -1}}, {{Kind: api.NNum, Num: 1, Name: "x", A: -1, B: -1}},
		{name("", "")}, {name("a", "")}, {{Kind: api.NVar, Name: "x", Num: 1, A: -1, B: -1}}, {{Kind: api.NVar, Name: "x", A: 0, B: -1}},
		{op(api.NNeg, -1, -1)}, {op(api.NNeg, 0, -1)}, {op(api.NNeg, 1, -1)}, {op(api.NAdd, -1, -1)}, {op(api.NAdd, 0, 0)}, {one, op(api.NNot, 0, 0)}, {one, op(api.NNot, -1, 0)}, {one, op(api.NNot, 1, -1)}, {one, op(api.NNot, 0, -2)},
		{one, op(api.NAdd, 0, -1)}, {one, op(api.NAdd, -1, 0)}, {one, op(api.NAdd, 0, 0)}, {one, op(api.NAdd, 0, 1)}, {one, two, op(api.NAdd, 1, 0)}, {one, two, op(api.NAdd, 1, 1)}, {one, two, op(api.NAdd, 0, 0)}, {one, two, op(api.NAdd, 0, 2)}, {one, two, op(api.NAdd, 0, -1)},
		{op(api.NAdd, 1, 2), one, two}, {one, op(api.NAdd, 0, 2), two}, {one, two, op(api.NNeg, 0, -1), op(api.NAdd, 2, 1)}, {one, two, op(api.NNeg, 0, -1), op(api.NAdd, 1, 2)}, {one, two, op(api.NNeg, 1, -1)}, {two, one, two, op(api.NAdd, 1, 2)}, {one, one, two, op(api.NAdd, 0, 2)},
		{one, two, one, op(api.NAdd, 0, 1), op(api.NAdd, 3, 2)}, {one, two, {Kind: api.NAdd, A: 0, B: 1, Num: 1}}, {one, two, {Kind: api.NAdd, A: 0, B: 1, Name: "x"}}, {one, {Kind: api.NNeg, A: 0, B: -1, Mod: "a"}}, {one, two, {Kind: 13, A: 0, B: 1}}, {one, {Kind: 0, A: 0, B: -1}},
		{one, op(api.NNeg, math.MinInt, -1)}, {one, op(api.NNeg, math.MaxInt, -1)}, {one, two, op(api.NAdd, math.MinInt, math.MaxInt)},
	} {
		for _, s := range []api.Stmt{
			{Kind: api.SLet, Name: "x", Label: "l", E: l}, {Kind: api.SSet, Name: "x", E: l}, {Kind: api.SResult, E: l}, {Kind: api.SIf, E: l}, {Kind: api.SWhile, E: l},
			{Kind: api.SCall, To: "f", Args: [][]api.Node{l}}, {Kind: api.SCall, To: "f", Args: [][]api.Node{{one}, l, {two}}},
		} {
			wantError(t, body(s), api.ErrArg)
		}
	}
}

// 13.2: each short list of nodes, against what the parser makes of its text.
func TestPrintShortLists(t *testing.T) {
	count := map[bool]int{}
	var add func(l []api.Node, most int)
	add = func(l []api.Node, most int) {
		count[wantModel(t, result(l...))]++
		if len(l) == most {
			return
		}
		for _, kind := range []int{0, api.NNum, api.NVar, api.NNeg, api.NSub} {
			for a := -1; a < most-1; a++ {
				for b := -1; b < most-1; b++ {
					n := api.Node{Kind: kind, A: a, B: b}
					if kind == api.NVar {
						n.Name = "x"
					}
					add(append(l[:len(l):len(l)], n), most)
				}
			}
		}
	}
	add(nil, 2)
	add(nil, 3)
	if count[true] < 14 || count[false] < 50000 {
		t.Error("too few of one kind:", count)
	}
}

// 13.2: fields that a statement of a kind does not use, and kinds that there are not.
func TestPrintUnused(t *testing.T) {
	one := []api.Node{number(1)}
	skip := []api.Stmt{{Kind: api.SSkip}}
	used := map[int]string{
		api.SLet: "Name Label E", api.SSet: "Mod Name E", api.SResult: "E", api.SCall: "Has Mod Name ToMod To Args",
		api.SIf: "E Body Else", api.SWhile: "E Body", api.SEmit: "Name", api.SSkip: "",
	}
	all := api.Stmt{Mod: "a", Name: "x", Label: "l", Has: true, ToMod: "b", To: "f", E: one, Args: [][]api.Node{one}, Body: skip, Else: skip}
	for kind, list := range used {
		s := api.Stmt{Kind: kind}
		for _, f := range strings.Fields(list) {
			reflect.ValueOf(&s).Elem().FieldByName(f).Set(reflect.ValueOf(all).FieldByName(f))
		}
		if !wantModel(t, body(s)) {
			t.Errorf("13.2: no text for %+v", s)
		}
		for _, f := range strings.Fields("Mod Name Label Has ToMod To E Args Body Else") {
			to := s
			reflect.ValueOf(&to).Elem().FieldByName(f).Set(reflect.ValueOf(all).FieldByName(f))
			if want := strings.Contains(" "+list+" ", " "+f+" "); wantModel(t, body(to)) != want {
				t.Errorf("13.2: kind %d with %s: %v", kind, f, !want)
			}
		}
	}
	for _, kind := range []int{0, -1, 9, 100, math.MinInt, math.MaxInt} {
		wantError(t, body(api.Stmt{Kind: kind}), api.ErrArg)
		all.Kind = kind
		wantError(t, body(all), api.ErrArg)
	}
	wantError(t, body(api.Stmt{Kind: api.SCall, To: "f", Name: "x"}), api.ErrArg)
	wantError(t, body(api.Stmt{Kind: api.SCall, To: "f", Mod: "a"}), api.ErrArg)
	wantError(t, body(api.Stmt{Kind: api.SCall, To: "f", Has: true}), api.ErrArg)
	wantError(t, api.Module{Name: "m", Procs: []api.Proc{{Name: "p", Pc: "l", Result: "l"}}}, api.ErrArg)
	wantError(t, api.Module{Name: "m", Procs: []api.Proc{{Name: "p", Pc: "l", Has: true}}}, api.ErrArg)
	wantError(t, api.Module{}, api.ErrArg)
}

// Expressions of n operators, one as the operand of the other.
var chains = []struct {
	levels func(n int) int // that the text opens
	expr   func(n int) []api.Node
}{
	{func(n int) int { return n - 1 }, func(n int) []api.Node { // 1+1+..
		l := []api.Node{number(1)}
		for range n {
			l = append(l, number(1), op(api.NAdd, len(l)-1, len(l)))
		}
		return l
	}},
	{func(n int) int { return n - 1 }, func(n int) []api.Node { // 1+(1+..
		var l []api.Node
		for range n + 1 {
			l = append(l, number(1))
		}
		for i := range n {
			l = append(l, op(api.NAdd, n-1-i, n+i))
		}
		return l
	}},
	{func(n int) int { return 2*n - 1 }, func(n int) []api.Node { // -(-(..
		l := []api.Node{name("a", "x")}
		for i := range n {
			l = append(l, op(api.NNeg+i%2, i, -1))
		}
		return l
	}},
	{func(n int) int { return n - 1 + (n+1)/2 }, func(n int) []api.Node { // -(1+(-(1..
		l := []api.Node{number(1)}
		for i := range n {
			if i%2 == 0 {
				l = append(l, op(api.NNeg, len(l)-1, -1))
			} else {
				l = append(l, number(1), op(api.NSub, len(l)-1, len(l)))
			}
		}
		return l
	}},
}

// 13.2: what is nested deeper than the parser goes is ErrArg: by its expressions, also where only the parentheses of the
// text are too many, and by its blocks.
func TestPrintLevels(t *testing.T) {
	for blocks := range api.MaxNest + 2 {
		wantLevels(t, nested(blocks, nil), blocks+1)
		wantLevels(t, nested(blocks, []api.Stmt{{Kind: api.SResult, E: []api.Node{number(1)}}}), blocks+1)
		for _, c := range chains {
			for n := 1; n < api.MaxNest+5; n++ {
				e := c.expr(n)
				levels := blocks + 1 + c.levels(n)
				wantLevels(t, nested(blocks, []api.Stmt{{Kind: api.SResult, E: e}}), levels)
				wantLevels(t, nested(blocks, []api.Stmt{{Kind: api.SWhile, E: e}}), max(levels, blocks+2))
				wantLevels(t, nested(blocks, []api.Stmt{{Kind: api.SCall, To: "f", Args: [][]api.Node{{number(1)}, e}}}), levels)
			}
		}
	}
	inElse := body(api.Stmt{Kind: api.SSkip})
	for n := 1; n < api.MaxNest+2; n++ {
		wantLevels(t, inElse, n)
		inElse = body(api.Stmt{Kind: api.SIf, E: []api.Node{number(1)}, Else: inElse.Procs[0].Body})
	}
}

// wantLevels checks whether a module has a text, by how many levels that opens.
func wantLevels(t *testing.T, m api.Module, levels int) {
	t.Helper()
	if wantModel(t, m) != (levels <= api.MaxNest) {
		t.Errorf("13.2: %d levels: %s", levels, told(m))
	}
}

// 13.2: levels end with their block and their expression, so those that stand side by side count once.
func TestPrintEndOfLevels(t *testing.T) {
	full := nested(api.MaxNest-1, nil).Procs[0].Body
	deep := chains[0].expr(api.MaxNest)
	m := body(append([]api.Stmt{full[0], {Kind: api.SIf, E: deep, Body: full[0].Body, Else: full[0].Body}, {Kind: api.SResult, E: deep}}, full...)...)
	m.Procs = append(m.Procs, m.Procs[0])
	wantLevels(t, m, api.MaxNest)
	deeper := api.Stmt{Kind: api.SResult, E: chains[0].expr(api.MaxNest + 1)}
	m.Procs[1].Body = append(full, deeper)
	wantLevels(t, m, api.MaxNest+1)
}

// long returns a module with a text of n bytes.
func long(n int) api.Module {
	m := api.Module{Name: "m"}
	one := api.Var{Name: "a", Label: "l", Init: 1}
	for left := n - len("module m ;"); left > 0; {
		if left < 2*16 {
			one.Name = strings.Repeat("a", 1+left-16)
		}
		m.Vars = append(m.Vars, one)
		left -= len(" var  : l = 1 ;") + len(one.Name)
	}
	return m
}

// 13.2: a text of MaxText bytes is returned, a longer one is ErrLong.
func TestPrintLong(t *testing.T) {
	for n := api.MaxText - 40; n <= api.MaxText+40; n++ {
		m := long(n)
		if text := told(m); len(text) != n {
			t.Fatal("another length:", len(text), n)
		} else if n <= api.MaxText {
			wantText(t, m, text)
			wantModel(t, m)
		} else {
			wantError(t, m, api.ErrLong)
		}
	}
	for _, n := range []int{2 * api.MaxText, 1 << 20} {
		wantError(t, long(n), api.ErrLong)
	}
	wantError(t, parsed(t, "module m;"+strings.Repeat("import a;", 900)), api.ErrLong)
	wantError(t, parsed(t, "module m;"+strings.Repeat("proc p()pc l uses{}{}", 300)), api.ErrLong)
	wantError(t, parsed(t, "module m;proc p()pc l uses{}{"+strings.Repeat("x=1;", 2000)+"}"), api.ErrLong)
	wantError(t, parsed(t, "module m;proc p()pc l uses{}{call f(1"+strings.Repeat(",1", 4000)+");}"), api.ErrLong)
	wantError(t, parsed(t, "module m;proc p(a:l"+strings.Repeat(",a:l", 2000)+")pc l uses{}{}"), api.ErrLong)
	wantError(t, parsed(t, "module m;proc p()pc l uses{e"+strings.Repeat(",e", 4000)+"}{}"), api.ErrLong)
}

// 13.2: a module with a wrong part is ErrArg, however long its text is and wherever the part is.
func TestPrintLongWrong(t *testing.T) {
	vars := long(api.MaxText + 1).Vars
	var skips []api.Stmt
	for range api.MaxText / len("skip ; ") {
		skips = append(skips, api.Stmt{Kind: api.SSkip})
	}
	count := map[api.Errno]int{}
	n := 0
	turned(parsed(t, whole), func(m api.Module) {
		if n++; n%7 > 0 {
			return
		}
		want := api.ErrArg
		if wantModel(t, m) {
			want = api.ErrLong
		}
		count[want]++
		last := m
		last.Vars = append(vars[:len(vars):len(vars)], m.Vars...)
		wantError(t, last, want)
		first := m
		first.Procs = append(m.Procs, api.Proc{Name: "p", Pc: "l", Body: skips})
		wantError(t, first, want)
	})
	if count[api.ErrLong] < 200 || count[api.ErrArg] < 700 {
		t.Error("too few of one kind:", count)
	}
	for levels, want := range map[int]api.Errno{api.MaxNest: api.ErrLong, api.MaxNest + 1: api.ErrArg} {
		m := nested(levels-1, nil)
		m.Procs[0].Body = append(skips[:len(skips):len(skips)], m.Procs[0].Body...)
		wantError(t, m, want)
		wantError(t, nested(levels-1, skips), want)
		wantError(t, body(append(skips[:len(skips):len(skips)], api.Stmt{Kind: api.SResult, E: chains[0].expr(levels)})...), want)
	}
}

// full returns an expression whose operands all have the same number of operators.
func full(l []api.Node, height int) []api.Node {
	if height == 0 {
		return append(l, number(1))
	}
	l = full(l, height-1)
	a := len(l) - 1
	l = full(l, height-1)
	return append(l, op(api.NMul, a, len(l)-1))
}

// 13.2: an expression that is too long is ErrLong, and ErrArg if any of its nodes is wrong.
func TestPrintLongExpression(t *testing.T) {
	for height := range 17 {
		l := full(nil, height)
		m := result(l...)
		want := api.OK
		if height > 9 {
			want = api.ErrLong
		}
		if s, e := show.Print(m); e != want || e == api.OK && s != told(m) {
			t.Errorf("13.2: height %d: %d %s", height, e, s)
		}
		for _, i := range []int{0, len(l) / 2, len(l) - 1} {
			kept := l[i]
			for _, n := range []api.Node{{}, number(-1), name("", "if"), {Kind: kept.Kind, Num: kept.Num, A: kept.A, B: kept.B, Name: "x"}, op(kept.Kind, kept.A+1, kept.B)} {
				l[i] = n
				wantError(t, m, api.ErrArg)
			}
			l[i] = kept
		}
	}
}

// 13.3: random modules, and the same with turned fields.
func TestPrintRandom(t *testing.T) {
	r := rand.New(rand.NewSource(22))
	count := map[api.Errno]int{}
	for i := range 4000 {
		m := (&source{r, r.Intn(1 << (i % 9))}).module()
		if len(told(m)) > api.MaxText {
			s, e := show.Print(m)
			if e != api.ErrLong && e != api.ErrArg || s != "" {
				t.Errorf("13.2: a long module: %q %d", s, e)
			}
			continue
		}
		wantBack(t, m, count)
		l := fields(reflect.ValueOf(&m).Elem(), nil)
		for range r.Intn(3) {
			v := l[r.Intn(len(l))]
			if to := others(v); v.Kind() != reflect.Slice {
				v.Set(to[r.Intn(len(to))])
			}
		}
		wantBack(t, m, count)
	}
	if count[api.OK] < 2000 || count[api.ErrArg] < 1000 {
		t.Error("too few of one kind:", count)
	}
}

// wantBack checks that what Print returns is parsed to a module that is the Same, and printed as it is.
func wantBack(t *testing.T, m api.Module, count map[api.Errno]int) {
	t.Helper()
	if len(told(m)) > api.MaxText {
		return
	}
	wantModel(t, m)
	s, e := show.Print(m)
	count[e]++
	if e != api.OK {
		return
	}
	back, e, _ := parse.Module(s)
	if e != api.OK || !show.Same(back, m) || !equal(back, m) {
		t.Errorf("13.3: Print(%+v) = %s", m, s)
	}
	wantText(t, back, s)
}

// R1: Print ends for lists of nodes whose text would be without end, and for such as are nested too deep for any stack.
func TestPrintEnds(t *testing.T) {
	twice := []api.Node{number(1)}
	for i := range 200 {
		twice = append(twice, op(api.NAdd, i, i))
	}
	wantNone := func(m api.Module) {
		t.Helper()
		if s, e := show.Print(m); e != api.ErrArg || s != "" {
			t.Errorf("13.2: %q %d", s, e)
		}
	}
	wantNone(result(twice...))
	wantNone(result(op(api.NAdd, 0, 0)))
	wantNone(result(op(api.NNeg, 1, -1), op(api.NNeg, 0, -1)))
	defer debug.SetMaxStack(debug.SetMaxStack(16 << 20))
	for _, c := range chains {
		wantNone(result(c.expr(500000)...))
	}
	wantNone(nested(1<<16-10, nil))
	deep := nested(1<<16-10, nil).Procs[0].Body
	wantNone(body(api.Stmt{Kind: api.SSkip, Body: deep}))
	wantNone(body(api.Stmt{Kind: api.SIf, E: []api.Node{number(1)}, Else: deep}))
}

// R1, R3: a module that is handed in stays as it is, and has the same text again.
func TestPrintArguments(t *testing.T) {
	r := rand.New(rand.NewSource(23))
	for range 200 {
		m := (&source{r, r.Intn(100)}).module()
		before := copied(m, true)
		first, e := show.Print(m)
		second, again := show.Print(m)
		show.Same(m, before)
		if first != second || e != again {
			t.Errorf("R1: two texts: %q %d, %q %d", first, e, second, again)
		}
		if !reflect.DeepEqual(copied(m, true), before) {
			t.Errorf("R3: a module was changed: %+v", m)
		}
	}
}
