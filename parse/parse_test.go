package parse_test

import (
	"fmt"
	"reflect"
	"strings"
	"testing"

	"aquifer/api"
	"aquifer/lex"
	"aquifer/parse"
)

// wantModule checks that a source has this tree.
func wantModule(t *testing.T, s string, want api.Module) {
	t.Helper()
	m, e, at := parse.Module(s)
	if e != api.OK || at != 0 || text(m) != text(want) {
		t.Errorf("12.2: Module(%.3000q) = %d %d\n%s\nwant\n%s", s, e, at, text(m), text(want))
	}
}

// wantError checks that a source has no tree, but an error at an offset.
func wantError(t *testing.T, s string, want api.Errno, offset int) {
	t.Helper()
	m, e, at := parse.Module(s)
	if e != want || at != offset || !reflect.DeepEqual(m, api.Module{}) {
		t.Errorf("12.1: Module(%.3000q) = %s %d %d; want error %d at %d", s, text(m), e, at, want, offset)
	}
}

// text is the same for a nil list and for an empty one.
func text(tree any) string {
	return fmt.Sprintf("%+v", tree)
}

const head = "module m;proc p()pc l uses{}{"

// wantBody checks that a procedure with this source as its body has these statements; offsets count from its beginning.
func wantBody(t *testing.T, s string, want ...api.Stmt) {
	t.Helper()
	wantModule(t, head+s+"}", api.Module{Name: "m", At: 7, Procs: []api.Proc{
		{Name: "p", Pc: "l", Body: moved(want), At: 14},
	}})
}

// moved returns the statements with offsets that count from the beginning of head.
func moved(l []api.Stmt) []api.Stmt {
	var to []api.Stmt
	for _, s := range l {
		s.At += len(head)
		s.E = movedNodes(s.E)
		s.Body, s.Else = moved(s.Body), moved(s.Else)
		var args [][]api.Node
		for _, a := range s.Args {
			args = append(args, movedNodes(a))
		}
		s.Args = args
		to = append(to, s)
	}
	return to
}

func movedNodes(l []api.Node) []api.Node {
	var to []api.Node
	for _, n := range l {
		n.At += len(head)
		to = append(to, n)
	}
	return to
}

func num(n, at int) api.Node {
	return api.Node{Kind: api.NNum, Num: n, A: -1, B: -1, At: at}
}

func name(mod, n string, at int) api.Node {
	return api.Node{Kind: api.NVar, Mod: mod, Name: n, A: -1, B: -1, At: at}
}

func op(kind, a, b, at int) api.Node {
	return api.Node{Kind: kind, A: a, B: b, At: at}
}

func nodes(l ...api.Node) []api.Node {
	return l
}

// wantNodes checks the nodes of an expression; offsets count from its beginning.
func wantNodes(t *testing.T, s string, want ...api.Node) {
	t.Helper()
	for i := range want {
		want[i].At += 2
	}
	wantBody(t, "x="+s+";", api.Stmt{Kind: api.SSet, Name: "x", E: want})
}

// 12.1, 12.2, 12.3: the examples of the chapter.
func TestExamples(t *testing.T) {
	wantError(t, "module m; x", api.ErrSyntax, 10)
	wantNodes(t, "1+2*3", num(1, 0), num(2, 2), num(3, 4), op(api.NMul, 1, 2, 3), op(api.NAdd, 0, 3, 1))
	wantLabels(t, "labels a < b < c; d; a<d;", pair("a", "b", 11), pair("b", "c", 15), pair("d", "", 18), pair("a", "d", 23))
}

// 12.2: what stands outside the procedures; all offsets are those of the names.
func TestModule(t *testing.T) {
	wantModule(t, "module m;", api.Module{Name: "m", At: 7})
	wantModule(t, " #c\n module\tmm # ;\n ; ", api.Module{Name: "mm", At: 12})
	wantModule(t, "module m;import a;import b; import m;import a;", api.Module{Name: "m", At: 7, Imports: []api.Import{
		{Name: "a", At: 16}, {Name: "b", At: 25}, {Name: "m", At: 35}, {Name: "a", At: 44},
	}})
	wantModule(t, "module m;var x:l=0;var x:h=999999999;var y:l=-999999999;var z:z=- 7;var o:l=-0;", api.Module{Name: "m", At: 7, Vars: []api.Var{
		{Name: "x", Label: "l", At: 13}, {Name: "x", Label: "h", Init: 999999999, At: 23}, {Name: "y", Label: "l", Init: -999999999, At: 41},
		{Name: "z", Label: "z", Init: -7, At: 60}, {Name: "o", Label: "l", At: 72},
	}})
	wantModule(t, "module m;import a;proc p()pc l uses{}{}var x:l=1;proc q()pc h uses{}{}var y:l=2;", api.Module{
		Name: "m", At: 7, Imports: []api.Import{{Name: "a", At: 16}},
		Vars:  []api.Var{{Name: "x", Label: "l", Init: 1, At: 43}, {Name: "y", Label: "l", Init: 2, At: 74}},
		Procs: []api.Proc{{Name: "p", Pc: "l", At: 23}, {Name: "q", Pc: "h", At: 54}},
	})
}

// 12.2: the parts of a procedure, each there and not there; names stand as they are written, also twice.
func TestProc(t *testing.T) {
	for s, want := range map[string]api.Proc{
		"p()pc l uses{}{}":      {Name: "p", Pc: "l"},
		"p()->h pc l uses{}{}":  {Name: "p", Has: true, Result: "h", Pc: "l"},
		"p(a:l)pc l uses{}{}":   {Name: "p", Params: []api.Param{{Name: "a", Label: "l", At: 16}}, Pc: "l"},
		"p()pc l uses{e}{}":     {Name: "p", Pc: "l", Uses: []string{"e"}},
		"p()pc l uses{f,e,f}{}": {Name: "p", Pc: "l", Uses: []string{"f", "e", "f"}},
		"p()pc l uses{}{skip;}": {Name: "p", Pc: "l", Body: []api.Stmt{{Kind: api.SSkip, At: 29}}},
		"p(b:l,a:h,b:b) -> p pc p uses{p}{emit p;skip;}": {
			Name: "p", Params: []api.Param{{Name: "b", Label: "l", At: 16}, {Name: "a", Label: "h", At: 20}, {Name: "b", Label: "b", At: 24}},
			Has: true, Result: "p", Pc: "p", Uses: []string{"p"},
			Body: []api.Stmt{{Kind: api.SEmit, Name: "p", At: 47}, {Kind: api.SSkip, At: 54}},
		},
	} {
		want.At = 14
		wantModule(t, "module m;proc "+s, api.Module{Name: "m", At: 7, Procs: []api.Proc{want}})
	}
}

// 12.2: each statement, with its target, names and blocks there and not there.
func TestStatements(t *testing.T) {
	wantBody(t, "")
	wantBody(t, "skip;", api.Stmt{Kind: api.SSkip})
	wantBody(t, " skip ; skip;", api.Stmt{Kind: api.SSkip, At: 1}, api.Stmt{Kind: api.SSkip, At: 8})
	wantBody(t, "let x:l=1;", api.Stmt{Kind: api.SLet, Name: "x", Label: "l", E: nodes(num(1, 8))})
	wantBody(t, "x=1;", api.Stmt{Kind: api.SSet, Name: "x", E: nodes(num(1, 2))})
	wantBody(t, "a.x=b.y;", api.Stmt{Kind: api.SSet, Mod: "a", Name: "x", E: nodes(name("b", "y", 4))})
	wantBody(t, "a . x = b . y ;", api.Stmt{Kind: api.SSet, Mod: "a", Name: "x", E: nodes(name("b", "y", 8))})
	wantBody(t, "result=x;", api.Stmt{Kind: api.SResult, E: nodes(name("", "x", 7))})
	wantBody(t, "emit e;", api.Stmt{Kind: api.SEmit, Name: "e"})
	wantBody(t, "call f();", api.Stmt{Kind: api.SCall, To: "f"})
	wantBody(t, "call a.f();", api.Stmt{Kind: api.SCall, ToMod: "a", To: "f"})
	wantBody(t, "call x=f();", api.Stmt{Kind: api.SCall, Has: true, Name: "x", To: "f"})
	wantBody(t, "call a.x=f();", api.Stmt{Kind: api.SCall, Has: true, Mod: "a", Name: "x", To: "f"})
	wantBody(t, "call x=b.f();", api.Stmt{Kind: api.SCall, Has: true, Name: "x", ToMod: "b", To: "f"})
	wantBody(t, "call a.x=b.f(1);", api.Stmt{Kind: api.SCall, Has: true, Mod: "a", Name: "x", ToMod: "b", To: "f", Args: [][]api.Node{{num(1, 13)}}})
	wantBody(t, "call f(1,y,-2);", api.Stmt{Kind: api.SCall, To: "f", Args: [][]api.Node{
		{num(1, 7)}, {name("", "y", 9)}, {num(2, 12), op(api.NNeg, 0, -1, 11)},
	}})
}

// 12.2: statements with blocks; an else belongs to the if of the block that ended before it.
func TestBlocks(t *testing.T) {
	skip := func(at int) []api.Stmt { return []api.Stmt{{Kind: api.SSkip, At: at}} }
	one := nodes(num(1, 3))
	wantBody(t, "if 1{}", api.Stmt{Kind: api.SIf, E: one})
	wantBody(t, "if 1{skip;}", api.Stmt{Kind: api.SIf, E: one, Body: skip(5)})
	wantBody(t, "if 1{}else{}", api.Stmt{Kind: api.SIf, E: one})
	wantBody(t, "if 1{}else{skip;}", api.Stmt{Kind: api.SIf, E: one, Else: skip(11)})
	wantBody(t, "if 1{skip;}else{skip;}", api.Stmt{Kind: api.SIf, E: one, Body: skip(5), Else: skip(16)})
	wantBody(t, "if 1{if 1{}}else{skip;}", api.Stmt{Kind: api.SIf, E: one, Body: []api.Stmt{{Kind: api.SIf, E: nodes(num(1, 8)), At: 5}}, Else: skip(17)})
	wantBody(t, "if 1{if 1{}else{skip;}}", api.Stmt{Kind: api.SIf, E: one, Body: []api.Stmt{{Kind: api.SIf, E: nodes(num(1, 8)), Else: skip(16), At: 5}}})
	wantBody(t, "while 1{}", api.Stmt{Kind: api.SWhile, E: nodes(num(1, 6))})
	wantBody(t, "while x<1{skip;}skip;",
		api.Stmt{Kind: api.SWhile, E: nodes(name("", "x", 6), num(1, 8), op(api.NLt, 0, 1, 7)), Body: skip(10)}, skip(16)[0])
}

// 12.2: the nodes of expressions: what binds closer, and what associates to the left.
func TestNodes(t *testing.T) {
	wantNodes(t, "0", num(0, 0))
	wantNodes(t, "999999999", num(999999999, 0))
	wantNodes(t, "y", name("", "y", 0))
	wantNodes(t, "a.y", name("a", "y", 0))
	wantNodes(t, " a\n.\ty", name("a", "y", 1))
	wantNodes(t, "(1)", num(1, 1))
	wantNodes(t, "((a.y))", name("a", "y", 2))
	for s, kind := range map[string]int{
		"+": api.NAdd, "-": api.NSub, "*": api.NMul, "/": api.NDiv, "%": api.NMod, "==": api.NEq, "<": api.NLt, "<=": api.NLe,
	} {
		n := len(s)
		wantNodes(t, "x"+s+"3", name("", "x", 0), num(3, n+1), op(kind, 0, 1, 1))
		wantNodes(t, "1 "+s+" -2", num(1, 0), num(2, n+4), op(api.NNeg, 1, -1, n+3), op(kind, 0, 2, 2))
		wantNodes(t, "!1"+s+"2", num(1, 1), op(api.NNot, 0, -1, 0), num(2, n+2), op(kind, 1, 2, 2))
		wantNodes(t, "(1"+s+"2)"+s+"3", num(1, 1), num(2, n+2), op(kind, 0, 1, 2), num(3, 2*n+4), op(kind, 2, 3, n+4))
		wantNodes(t, "1"+s+"(2"+s+"3)", num(1, 0), num(2, n+2), num(3, 2*n+3), op(kind, 1, 2, n+3), op(kind, 0, 3, 1))
	}
	wantNodes(t, "1-2+3-4", num(1, 0), num(2, 2), op(api.NSub, 0, 1, 1), num(3, 4), op(api.NAdd, 2, 3, 3), num(4, 6), op(api.NSub, 4, 5, 5))
	wantNodes(t, "1/2*3%4", num(1, 0), num(2, 2), op(api.NDiv, 0, 1, 1), num(3, 4), op(api.NMul, 2, 3, 3), num(4, 6), op(api.NMod, 4, 5, 5))
	wantNodes(t, "1*2+3", num(1, 0), num(2, 2), op(api.NMul, 0, 1, 1), num(3, 4), op(api.NAdd, 2, 3, 3))
	wantNodes(t, "1+2<=3-4", num(1, 0), num(2, 2), op(api.NAdd, 0, 1, 1), num(3, 5), num(4, 7), op(api.NSub, 3, 4, 6), op(api.NLe, 2, 5, 3))
	wantNodes(t, "--1", num(1, 2), op(api.NNeg, 0, -1, 1), op(api.NNeg, 1, -1, 0))
	wantNodes(t, "-!-y", name("", "y", 3), op(api.NNeg, 0, -1, 2), op(api.NNot, 1, -1, 1), op(api.NNeg, 2, -1, 0))
	wantNodes(t, "-1*2", num(1, 1), op(api.NNeg, 0, -1, 0), num(2, 3), op(api.NMul, 1, 2, 2))
	wantNodes(t, "-(1*2)", num(1, 2), num(2, 4), op(api.NMul, 0, 1, 3), op(api.NNeg, 2, -1, 0))
	wantNodes(t, "(1==2)==(3<4)", num(1, 1), num(2, 4), op(api.NEq, 0, 1, 2), num(3, 9), num(4, 11), op(api.NLt, 3, 4, 10), op(api.NEq, 2, 5, 6))
}

// 12.1: the error of Lex comes first, also one behind another error.
func TestLexErrors(t *testing.T) {
	deep := head + "x=" + strings.Repeat("(", api.MaxNest+1)
	long, digits := strings.Repeat("a", api.MaxName+1), strings.Repeat("1", api.MaxDigit+1)
	for _, s := range []string{"", "x ", "module m; ", "module m; x ", "module m; # ?\n", head + "x=1", head + "}", head + "}} ", deep + " ", "labels ", "labels a;"} {
		for wrong, e := range map[string]api.Errno{"?": api.ErrWord, "_": api.ErrWord, "01": api.ErrWord, "1a": api.ErrWord, ">": api.ErrWord, long: api.ErrLong, digits: api.ErrLong} {
			wantError(t, s+" "+wrong, e, len(s)+1)
			wantError(t, s+"\n"+wrong+" x ?", e, len(s)+1)
			wantNoLabels(t, s+" "+wrong, e, len(s)+1)
			if _, is, at := lex.Lex(s + " " + wrong); is != e || at != len(s)+1 {
				t.Errorf("Lex(%q) is %d at %d", s+" "+wrong, is, at)
			}
		}
	}
}

// 12.1: a source of MaxText bytes is parsed, one of more is ErrLong at MaxText, whatever is in it.
func TestLength(t *testing.T) {
	fill := func(s string, n int) string { return s + strings.Repeat(" ", n-len(s)) }
	wantModule(t, fill("module m;", api.MaxText), api.Module{Name: "m", At: 7})
	wantError(t, fill("module m; x", api.MaxText), api.ErrSyntax, 10)
	wantError(t, fill("module m", api.MaxText), api.ErrSyntax, api.MaxText)
	wantLabels(t, fill("labels a;", api.MaxText), pair("a", "", 7))
	for _, s := range []string{"", "module m;", "labels a;", "x", "?"} {
		for _, n := range []int{api.MaxText + 1, 2 * api.MaxText, 1 << 20} {
			wantError(t, fill(s, n), api.ErrLong, api.MaxText)
			wantNoLabels(t, fill(s, n), api.ErrLong, api.MaxText)
		}
	}

	n := (api.MaxText - len(head) - len("x=1;}")) / 2
	m, e, at := parse.Module(head + "x=1" + strings.Repeat("+1", n) + ";}")
	if e != api.OK || at != 0 || len(m.Procs[0].Body[0].E) != 2*n+1 {
		t.Errorf("12.2: a long sum: %d %d", e, at)
	}
	n = (api.MaxText - len(head) - len("}")) / len("skip;")
	m, e, at = parse.Module(head + strings.Repeat("skip;", n) + "}")
	if e != api.OK || at != 0 || len(m.Procs[0].Body) != n {
		t.Errorf("12.2: many statements: %d %d", e, at)
	}
}

// 12.1: tokens that cannot occur, and the end where it cannot.
func TestSyntaxErrors(t *testing.T) {
	for s, at := range map[string]int{
		"": 0, " ": 1, "#module m;": 10, "m": 0, "modul m;": 0, "module": 6, "module m": 8, "module module;": 7, "module 1;": 7, "module m.n;": 8, "module m,": 8,
		"module m;;": 9, "module m; module n;": 10, "module m; import;": 16, "module m; import a": 18, "module m; import a.b;": 18, "module m; import a,b;": 18, "module m; import result;": 17,
		"module m; var x:l=1; import a;": 21, "module m; proc p()pc l uses{}{} import a;": 32,
		"module m; var": 13, "module m; var x=1;": 15, "module m; var a.x:l=1;": 15, "module m; var x:1=1;": 16, "module m; var x:l;": 17, "module m; var x:l==1;": 17,
		"module m; var x:l=;": 18, "module m; var x:l=x;": 18, "module m; var x:l=+1;": 18, "module m; var x:l=!1;": 18, "module m; var x:l=(1);": 18, "module m; var x:l=-": 19,
		"module m; var x:l=--1;": 19, "module m; var x:l=-x;": 19, "module m; var x:l=->1;": 18, "module m; var x:l=1": 19, "module m; var x:l=1+1;": 19, "module m; var x:l=1,": 19,
		"module m; proc": 14, "module m; proc p": 16, "module m; proc p{": 16, "module m; proc p)": 16, "module m; proc p(": 17, "module m; proc p(,": 17, "module m; proc p(a)": 18, "module m; proc p(a:)": 19,
		"module m; proc p(a:l": 20, "module m; proc p(a:l b:l)": 21, "module m; proc p(a:l,)": 21, "module m; proc p(a:l;": 20, "module m; proc p((": 17, "module m; proc p(a:l.m": 20,
		"module m; proc p()l": 18, "module m; proc p()->": 20, "module m; proc p()->pc l": 20, "module m; proc p()->l h": 22, "module m; proc p():l": 18,
		"module m; proc p()uses{}": 18, "module m; proc p()pc uses": 21, "module m; proc p()pc l": 22, "module m; proc p()pc l{}": 22, "module m; proc p()pc l uses(": 27, "module m; proc p()pc l uses e": 28,
		"module m; proc p()pc l uses{,": 28, "module m; proc p()pc l uses{e,}": 30, "module m; proc p()pc l uses{e;": 29, "module m; proc p()pc l uses{e f": 30, "module m; proc p()pc l uses{1": 28,
		"module m; proc p()pc l uses{}": 29, "module m; proc p()pc l uses{};": 29, "module m; proc p()pc l uses{}skip;": 29, "module m; proc p()pc l uses{}{": 30, "module m; proc p()pc l uses{}{}}": 31, "module m; proc p()pc l uses{}{};": 31,
	} {
		wantError(t, s, api.ErrSyntax, at)
	}
	for s, at := range map[string]int{
		"": 0, ";": 0, "{": 0, "{}": 0, "1;": 0, "(": 0, "x": 1, "x;": 1, "x==1;": 1, "x.": 2, "x.1": 2, "x.if": 2, "x.y.z=1;": 3, "x=": 2, "x=;": 2, "x=1": 3, "x=1,": 3, "x=1}": 3, "x=y=z;": 3, "x:l=1;": 1, "x();": 1, "-x=1;": 0,
		"else{}": 0, "else": 0, "if": 2, "if{": 2, "if 1": 4, "if 1;": 4, "if 1 skip;": 5, "if 1{": 5, "if 1{};": 6, "if 1{}else": 10, "if 1{}else;": 10, "if 1{}else if 1{}": 11, "if 1{}else{}else{}": 12, "if(1){}else 1": 12, "if 1{}{}": 6,
		"while": 5, "while{": 5, "while 1;": 7, "while 1 skip;": 8, "while 1{": 8, "while 1{}else{}": 9, "while 1{};": 9, "while x=1{}": 7,
		"let": 3, "let x=1;": 5, "let a.x:l=1;": 5, "let x:": 6, "let x:a.l=1;": 7, "let x:l": 7, "let x:l;": 7, "let x:l==1;": 7, "let x:l=1": 9, "let 1:l=1;": 4, "let result:l=1;": 4,
		"result": 6, "result 1;": 7, "result:l=1;": 6, "result==1;": 6, "result=": 7, "result=1,": 8, "result.x=1;": 6, "a.result=1;": 2,
		"call": 4, "call;": 4, "call f": 6, "call f;": 6, "call f.": 7, "call f.g.h()": 8, "call f(": 7, "call f(,)": 7, "call f(1,)": 9, "call f(1 2)": 9, "call f(1": 8, "call f(1;": 8, "call f()": 8, "call f();;": 9, "call f()+1;": 8, "call f()=x": 8,
		"call x=": 7, "call x=1;": 7, "call x=f": 8, "call x=f;": 8, "call x=y=f();": 8, "call x==f();": 6, "call result=f();": 5, "call x=(f)();": 7, "call 1();": 5, "call f((1)": 10,
		"emit": 4, "emit;": 4, "emit 1;": 5, "emit e": 6, "emit e,f;": 6, "emit a.b;": 6, "emit(e);": 4, "skip": 4, "skip,": 4, "skip skip;": 5, "pc": 0, "uses": 0, "var x:l=1;": 0, "proc p()": 0, "import a;": 0, "module m;": 0, "labels a;": 0,
	} {
		wantError(t, head+s, api.ErrSyntax, len(head)+at)
	}
	for s, at := range map[string]int{
		"": 0, "+1": 0, "*1": 0, "1+": 2, "1+*2": 2, "1-+2": 2, "1++2": 2, "1 2": 2, "1 x": 2, "x 1": 2, "1.x": 1, "1.2": 1, "x.": 2, "x.1": 2, "x.(y)": 2, "x.-y": 2, "x.y.z": 3, ".x": 0, "(": 1, "()": 1, "(1": 2, "(1,2)": 2, "(1;": 2, "1)": 1, "(1))": 3, "(1)(2)": 3, "(1)2": 3, "1(2)": 1, "x(1)": 1, "{1}": 0,
		"1<2<3": 3, "1==2==3": 4, "1<=2==3": 4, "1==2<3": 4, "1<2+3<=4": 5, "1= =2": 1, "1<==2": 3, "1===2": 3, "1= 2": 1, "1!2": 1, "!": 1, "-": 1, "!*1": 1, "-)": 1, "!=1": 1, "1!=2": 1, "1->2": 1, "->1": 0, "1-": 2, "if": 0, "1+result": 2, "skip": 0, "1 else": 2, "(x:l)": 2, "(x=1)": 2, "1<;": 2, "-<1": 1,
	} {
		wantError(t, head+"x="+s, api.ErrSyntax, len(head)+2+at)
	}
}

// wantLevels checks that a body has no more than MaxNest levels.
func wantLevels(t *testing.T, s string) {
	t.Helper()
	if m, e, at := parse.Module(head + s + "}"); e != api.OK || at != 0 || m.Name != "m" {
		t.Errorf("12.1: Module(%.3000q) = %d %d", head+s+"}", e, at)
	}
}

// wantDeep checks that the last token of a body opens a level too many, whatever follows.
func wantDeep(t *testing.T, s string) {
	t.Helper()
	for _, more := range []string{"", "1", "}", "(", "*", "x=1;", "{", " module"} {
		wantError(t, head+s+more, api.ErrDeep, len(head)+len(s)-1)
	}
}

// deepest is how many levels there may be in the body of a procedure, which is one itself.
const deepest = api.MaxNest - 1

// 12.1: each part of a unary that opens a level, wherever an expression may stand.
func TestExpressionLevels(t *testing.T) {
	r := strings.Repeat
	for _, place := range [][2]string{
		{"x=", ";"}, {"a.x=", ";"}, {"let x:l=", ";"}, {"result=", ";"}, {"call f(", ");"}, {"call y=a.f(1,", ",2);"}, {"if ", "{}"}, {"while ", "{}"},
		{"x=1+", ";"}, {"x=(1)*", ";"}, {"x=--1<", ";"}, {"x=(-(!1))-", "/2==(3);"}, {"if(1){}else{}while 1{}x=", ";"},
	} {
		for open, shut := range map[string]string{"(": ")", "-": "", "!": "", "1+(": ")", "2*(": "/3)"} {
			wantLevels(t, place[0]+r(open, deepest)+"1"+r(shut, deepest)+place[1])
			for _, one := range []string{"(", "-", "!"} {
				wantDeep(t, place[0]+r(open, deepest)+one)
			}
		}
		wantLevels(t, place[0]+r("-(!(", deepest/4)+"1"+r("))", deepest/4)+place[1])
		wantDeep(t, place[0]+r("-(!(", deepest/4)+r("-", deepest%4)+"!")
	}
}

// 12.1: a level ends with its unary, so those that stand side by side count once.
func TestEndOfLevels(t *testing.T) {
	r := strings.Repeat
	for _, one := range []string{"(1)+", "-1/", "!x.y-", "-1-", "!1+(1)*"} {
		wantLevels(t, "x="+r(one, 500)+"1;")
		wantLevels(t, "x="+r("(", deepest-1)+r(one, 500)+"1"+r(")", deepest-1)+";")
		wantDeep(t, "x="+r("(", deepest-1)+r(one, 500)+"(-")
		wantDeep(t, "x="+r("(", deepest-1)+r(one, 500)+"-(")
	}
	wantLevels(t, "x="+r("(-!(1))*", 500)+"1;")
	full := r("(", deepest) + "1" + r(")", deepest)
	wantLevels(t, "x="+r(full+"+", 50)+"1;call f("+r(full+",", 50)+full+");")
	for _, one := range []string{"if 1{}", "while 1{}", "if 1{}else{}", "if 1{while 1{}}else{}"} {
		wantLevels(t, r(one, 300))
	}
}

// 12.1: each part of a statement that opens a level.
func TestBlockLevels(t *testing.T) {
	r := strings.Repeat
	for _, open := range []string{"if 1{", "while 1{", "if 1{}else{", "if(1){", "while -x{", "if 1{skip;}x=-1;while 1{"} {
		shut := r("}", deepest)
		wantLevels(t, r(open, deepest)+shut)
		wantLevels(t, r(open, deepest)+"call f(1,x);call y=a.f();emit e;let x:l=1;result=x+2*3;"+shut)
		for _, one := range []string{"if 1{", "while 1{", "x=(", "let x:l=1*-", "result=!", "call f(1,(", "if(", "while !"} {
			wantDeep(t, r(open, deepest)+one)
			wantDeep(t, r(open, deepest-1)+"if 1{}else{"+one)
			wantDeep(t, r(open, deepest-1)+"if 1{"+one)
		}
	}
	wantDeep(t, r("if(1){", deepest-1)+"if(-")
	wantDeep(t, r("while 1{", deepest-20)+"x=1+"+r("-(", 10)+"!")
	wantLevels(t, r("while 1{", deepest-20)+"x=1+"+r("-(", 10)+"1"+r(")", 10)+";"+r("}", deepest-20))
}

// 12.1: signs that are no part of a block or of a unary open no level.
func TestNoLevels(t *testing.T) {
	full := strings.Repeat("if 1{", deepest)
	wantLevels(t, full+"call f();call x=f(y);x=1-2-3;"+strings.Repeat("}", deepest))
	for range 2 * api.MaxNest {
		full += "call f();x=1-1;"
	}
	wantLevels(t, full+strings.Repeat("}", deepest))
	var many strings.Builder
	many.WriteString("module m;")
	for range 2 * api.MaxNest {
		many.WriteString("var x:l=-1;proc p(a:l)->l pc l uses{e}{}")
	}
	if m, e, at := parse.Module(many.String()); e != api.OK || at != 0 || len(m.Procs) != 2*api.MaxNest {
		t.Errorf("12.1: many procedures: %d %d", e, at)
	}
}

// 12.1: the first token with an error decides; a token that cannot occur opens no level.
func TestDeepOrSyntax(t *testing.T) {
	r := strings.Repeat
	full := head + "x=" + r("(", deepest)
	for s, at := range map[string]int{
		"": 0, ")": 0, "+": 0, "*(": 0, "{": 0, "}": 0, ";": 0, ",": 0, "if": 0, "1(": 1, "x(": 1, "1{": 1, "1!": 1, "1,(": 1, "x.(": 2, "x.-y": 2, "1-": 2, "1+)(": 2, "1<2<(": 3,
	} {
		wantError(t, full+s, api.ErrSyntax, len(full)+at)
	}
	for s, at := range map[string]int{"(+": 0, "--": 0, "!": 0, "1-(": 2, "1--": 2, "1+!)": 2, "x.y<(": 4} {
		wantError(t, full+s, api.ErrDeep, len(full)+at)
	}
	wantError(t, "module m x "+full, api.ErrSyntax, 9)
	wantError(t, full+"(}", api.ErrDeep, len(full))

	blocks := head + r("if 1{", deepest)
	for s, at := range map[string]int{"": 0, "{": 0, "if{": 2, "emit e{": 6, "call f({": 7, "while 1;{": 7} {
		wantError(t, blocks+s, api.ErrSyntax, len(blocks)+at)
	}
	wantError(t, blocks+"if 1{{", api.ErrDeep, len(blocks)+4)
}

func pair(name, label string, at int) api.Param {
	return api.Param{Name: name, Label: label, At: at}
}

// wantLabels checks that a source of labels has these pairs.
func wantLabels(t *testing.T, s string, want ...api.Param) {
	t.Helper()
	l, e, at := parse.Labels(s)
	if e != api.OK || at != 0 || text(l) != text(want) {
		t.Errorf("12.3: Labels(%.3000q) = %v %d %d; want %v", s, l, e, at, want)
	}
}

// wantNoLabels checks that a source of labels has no pairs, but an error at an offset.
func wantNoLabels(t *testing.T, s string, want api.Errno, offset int) {
	t.Helper()
	l, e, at := parse.Labels(s)
	if e != want || at != offset || len(l) != 0 {
		t.Errorf("12.3: Labels(%.3000q) = %v %d %d; want error %d at %d", s, l, e, at, want, offset)
	}
}

// 12.3: lines of one name, of two and of more, in any order.
func TestLabels(t *testing.T) {
	wantLabels(t, "labels")
	wantLabels(t, " labels # a;\n")
	wantLabels(t, "labels a;", pair("a", "", 7))
	wantLabels(t, "labels a;a;b;", pair("a", "", 7), pair("a", "", 9), pair("b", "", 11))
	wantLabels(t, "labels a<b;", pair("a", "b", 9))
	wantLabels(t, "labels a<a;", pair("a", "a", 9))
	wantLabels(t, "labels\nb < a ;\na<b;", pair("b", "a", 11), pair("a", "b", 17))
	wantLabels(t, "labels a<b<c<a;", pair("a", "b", 9), pair("b", "c", 11), pair("c", "a", 13))
	wantLabels(t, "labels z;a<b;z;", pair("z", "", 7), pair("a", "b", 11), pair("z", "", 13))
	wantLabels(t, "labels"+strings.Repeat(" a<b;", 500), manyPairs(500)...)
	for s, at := range map[string]int{
		"": 0, "label": 0, "a;": 0, "module m;": 0, "labels;": 6, "labels labels": 7, "labels a": 8, "labels a;;": 9, "labels <a;": 7, "labels a<;": 9, "labels a<": 9, "labels a<b": 10, "labels a<b<": 11, "labels a<<b;": 9, "labels a<b<;": 11,
		"labels a<=b;": 8, "labels a b;": 9, "labels a,b;": 8, "labels 1;": 7, "labels a<1;": 9, "labels if;": 7, "labels a<pc;": 9, "labels a;labels b;": 9, "labels a.b;": 8, "labels a;}": 9, "labels (a);": 7, "labels a<b c;": 11, "labels a->b;": 8, "labels -a;": 7,
	} {
		wantNoLabels(t, s, api.ErrSyntax, at)
	}
	wantError(t, "labels a;", api.ErrSyntax, 0)
	wantNoLabels(t, "labels "+strings.Repeat("(", 100), api.ErrSyntax, 7)
}

func manyPairs(n int) []api.Param {
	var l []api.Param
	for i := range n {
		l = append(l, pair("a", "b", 9+5*i))
	}
	return l
}
