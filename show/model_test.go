package show_test

import (
	"math"
	"math/rand"
	"reflect"
	"strconv"
	"strings"
	"testing"

	"aquifer/api"
	"aquifer/parse"
	"aquifer/show"
)

// copied returns a value with new lists, an empty one as nil; without places, each At is 0.
func copied[T any](x T, places bool) T {
	return copyOf(reflect.ValueOf(x), places).Interface().(T)
}

func copyOf(v reflect.Value, places bool) reflect.Value {
	to := reflect.New(v.Type()).Elem()
	switch v.Kind() {
	case reflect.Struct:
		for i := range v.NumField() {
			if places || v.Type().Field(i).Name != "At" {
				to.Field(i).Set(copyOf(v.Field(i), places))
			}
		}
	case reflect.Slice:
		for i := range v.Len() {
			to.Set(reflect.Append(to, copyOf(v.Index(i), places)))
		}
	default:
		to.Set(v)
	}
	return to
}

// bare returns a module without places.
func bare(m api.Module) api.Module {
	return copied(m, false)
}

func equal(a, b api.Module) bool {
	return reflect.DeepEqual(bare(a), bare(b))
}

// teller writes the text of a module by the words of 13.2, however wrong the module is. What has no text is a `?`, which
// is in no source.
type teller struct{ tokens []string }

func told(m api.Module) string {
	var w teller
	w.module(m)
	return strings.Join(w.tokens, " ")
}

func (w *teller) say(tokens ...string) {
	w.tokens = append(w.tokens, tokens...)
}

func (w *teller) module(m api.Module) {
	w.say("module", m.Name, ";")
	for _, i := range m.Imports {
		w.say("import", i.Name, ";")
	}
	for _, v := range m.Vars {
		n := strconv.Itoa(v.Init)
		w.say("var", v.Name, ":", v.Label, "=")
		if n[0] == '-' {
			w.say("-")
		}
		w.say(strings.TrimPrefix(n, "-"), ";")
	}
	for _, p := range m.Procs {
		w.say("proc", p.Name, "(")
		for i, q := range p.Params {
			w.comma(i)
			w.say(q.Name, ":", q.Label)
		}
		w.say(")")
		if p.Has {
			w.say("->", p.Result)
		}
		w.say("pc", p.Pc, "uses", "{")
		for i, u := range p.Uses {
			w.comma(i)
			w.say(u)
		}
		w.say("}")
		w.body(p.Body)
	}
}

func (w *teller) comma(i int) {
	if i > 0 {
		w.say(",")
	}
}

func (w *teller) body(l []api.Stmt) {
	w.say("{")
	for _, s := range l {
		w.stmt(s)
	}
	w.say("}")
}

func (w *teller) qname(mod, name string) {
	if mod != "" {
		w.say(mod, ".")
	}
	w.say(name)
}

func (w *teller) stmt(s api.Stmt) {
	switch s.Kind {
	case api.SLet:
		w.say("let", s.Name, ":", s.Label, "=")
		w.expr(s.E)
	case api.SSet:
		w.qname(s.Mod, s.Name)
		w.say("=")
		w.expr(s.E)
	case api.SResult:
		w.say("result", "=")
		w.expr(s.E)
	case api.SCall:
		w.say("call")
		if s.Has {
			w.qname(s.Mod, s.Name)
			w.say("=")
		}
		w.qname(s.ToMod, s.To)
		w.say("(")
		for i, a := range s.Args {
			w.comma(i)
			w.expr(a)
		}
		w.say(")")
	case api.SIf:
		w.say("if")
		w.expr(s.E)
		w.body(s.Body)
		if len(s.Else) > 0 {
			w.say("else")
			w.body(s.Else)
		}
		return
	case api.SWhile:
		w.say("while")
		w.expr(s.E)
		w.body(s.Body)
		return
	case api.SEmit:
		w.say("emit", s.Name)
	case api.SSkip:
		w.say("skip")
	default:
		w.say("?")
	}
	w.say(";")
}

var signs = map[int]string{api.NNeg: "-", api.NNot: "!", api.NAdd: "+", api.NSub: "-", api.NMul: "*", api.NDiv: "/", api.NMod: "%", api.NEq: "==", api.NLt: "<", api.NLe: "<="}

// expr goes to no more nodes than the list has, as it may lead to one of them many times.
func (w *teller) expr(l []api.Node) {
	left := len(l)
	w.node(l, len(l)-1, &left)
}

func (w *teller) node(l []api.Node, i int, left *int) {
	if i < 0 || i >= len(l) || *left == 0 {
		w.say("?")
		return
	}
	*left--
	switch n := l[i]; n.Kind {
	case api.NNum:
		w.say(strconv.Itoa(n.Num))
	case api.NVar:
		w.qname(n.Mod, n.Name)
	case api.NNeg, api.NNot:
		w.say(signs[n.Kind])
		w.operand(l, n.A, left)
	case api.NAdd, api.NSub, api.NMul, api.NDiv, api.NMod, api.NEq, api.NLt, api.NLe:
		w.operand(l, n.A, left)
		w.say(signs[n.Kind])
		w.operand(l, n.B, left)
	default:
		w.say("?")
	}
}

func (w *teller) operand(l []api.Node, i int, left *int) {
	if i >= 0 && i < len(l) && (l[i].Kind == api.NNum || l[i].Kind == api.NVar) {
		w.node(l, i, left)
		return
	}
	w.say("(")
	w.node(l, i, left)
	w.say(")")
}

// wantText checks that a module has this text.
func wantText(t *testing.T, m api.Module, want string) {
	t.Helper()
	if s, e := show.Print(m); e != api.OK || s != want {
		t.Errorf("13.2: Print(%+v) = %d\n%s\nwant\n%s", m, e, s, want)
	}
}

// wantError checks that a module has no text, but an error.
func wantError(t *testing.T, m api.Module, want api.Errno) {
	t.Helper()
	if s, e := show.Print(m); e != want || s != "" {
		t.Errorf("13.2: Print(%.3000s) = %.300q %d; want error %d", told(m), s, e, want)
	}
}

// wantModel checks what Print returns by parsing the text that the module should have, and tells whether there is one.
func wantModel(t *testing.T, m api.Module) bool {
	t.Helper()
	text := told(m)
	if len(text) > api.MaxText {
		t.Fatal("too long to be parsed:", len(text))
	}
	if back, e, _ := parse.Module(text); e != api.OK || !equal(back, m) {
		wantError(t, m, api.ErrArg)
		return false
	}
	wantText(t, m, text)
	return true
}

// fields adds the places of all fields of a value, and of all its lists, in some fixed order.
func fields(v reflect.Value, l []reflect.Value) []reflect.Value {
	switch v.Kind() {
	case reflect.Struct:
		for i := range v.NumField() {
			l = fields(v.Field(i), l)
		}
		return l
	case reflect.Slice:
		for i := range v.Len() {
			l = fields(v.Index(i), l)
		}
	}
	return append(l, v)
}

// others returns values that a field may be turned to.
func others(v reflect.Value) []reflect.Value {
	var l []reflect.Value
	switch v.Kind() {
	case reflect.Int:
		n := int(v.Int())
		for _, x := range []int{n + 1, n - 1, -n, 0, 1, -1, 2, 3, 5, 9, 13, 999999999, 1000000000, -999999999, -1000000000, math.MinInt, math.MaxInt} {
			l = append(l, reflect.ValueOf(x))
		}
	case reflect.String:
		for _, x := range append(wrongNames(), "", "a", "b", "zz", "ifs", strings.Repeat("a", api.MaxName), v.String()+"x") {
			l = append(l, reflect.ValueOf(x))
		}
	case reflect.Bool:
		l = append(l, reflect.ValueOf(!v.Bool()))
	case reflect.Slice:
		l = append(l, reflect.Zero(v.Type()), reflect.MakeSlice(v.Type(), 0, 1), longer(v, reflect.Zero(v.Type().Elem())))
		for i := range v.Len() {
			l = append(l, longer(v, v.Index(i)), without(v, i))
		}
	}
	return l
}

func longer(v, x reflect.Value) reflect.Value {
	return reflect.Append(copyOf(v, true), x)
}

func without(v reflect.Value, i int) reflect.Value {
	return reflect.AppendSlice(copyOf(v.Slice(0, i), true), v.Slice(i+1, v.Len()))
}

// turned calls a function with modules of which one field or list is not that of m; they last as long as the call.
func turned(m api.Module, use func(api.Module)) {
	m = copied(m, true)
	for _, v := range fields(reflect.ValueOf(&m).Elem(), nil) {
		kept := reflect.New(v.Type()).Elem()
		kept.Set(v)
		for _, x := range others(kept) {
			v.Set(x)
			use(m)
		}
		v.Set(kept)
	}
}

// wrongNames returns strings that are not names.
func wrongNames() []string {
	l := []string{
		"A", "aB", "_", "_a", "1", "1a", "a b", "a ", " a", "a\n", "a#", "#a", "a;", ";", "a.b", ".", "a:l", "a,b", "a-b", "-", "=", "?", "é", "aé", "a\x00", "\x00", "\xff", "a\xff",
		strings.Repeat("a", api.MaxName+1),
	}
	return append(l, strings.Fields("module import var proc pc uses let call if else while emit result skip labels")...)
}

// source makes random modules, the places in them too.
type source struct {
	r    *rand.Rand
	most int // statements and nodes; about that many at most
}

func (c *source) name() string {
	l := strings.Fields("a b c x y_1 z9 low high m aaaaaaaaaaaaaaaaaaaa modules ifs")
	return l[c.r.Intn(len(l))]
}

func (c *source) maybe() string {
	if c.r.Intn(2) == 0 {
		return ""
	}
	return c.name()
}

func (c *source) at() int {
	return c.r.Intn(200) - 100
}

func (c *source) number() int {
	return []int{0, 1, 7, 10, 999999999, 123456789}[c.r.Intn(6)]
}

// few returns a number from 0 on, mostly a low one.
func (c *source) few() int {
	n := 0
	for c.r.Intn(5) < 3 {
		n++
	}
	return n
}

func (c *source) module() api.Module {
	m := api.Module{Name: c.name(), At: c.at()}
	for range c.few() {
		m.Imports = append(m.Imports, api.Import{Name: c.name(), At: c.at()})
	}
	for range c.few() {
		m.Vars = append(m.Vars, api.Var{Name: c.name(), Label: c.name(), Init: c.number() * (1 - 2*c.r.Intn(2)), At: c.at()})
	}
	for c.most > 0 {
		p := api.Proc{Name: c.name(), Has: c.r.Intn(2) == 0, Pc: c.name(), At: c.at()}
		if p.Has {
			p.Result = c.name()
		}
		for range c.few() {
			p.Params = append(p.Params, api.Param{Name: c.name(), Label: c.name(), At: c.at()})
		}
		for range c.few() {
			p.Uses = append(p.Uses, c.name())
		}
		p.Body = c.body()
		m.Procs = append(m.Procs, p)
		c.most--
	}
	return m
}

func (c *source) body() []api.Stmt {
	l := []api.Stmt{}
	for c.most > 0 && c.r.Intn(5) < 4 {
		c.most--
		l = append(l, c.stmt())
	}
	return l
}

func (c *source) stmt() api.Stmt {
	s := api.Stmt{Kind: api.SLet + c.r.Intn(8), At: c.at()}
	switch s.Kind {
	case api.SLet:
		s.Name, s.Label, s.E = c.name(), c.name(), c.expr()
	case api.SSet:
		s.Mod, s.Name, s.E = c.maybe(), c.name(), c.expr()
	case api.SResult:
		s.E = c.expr()
	case api.SCall:
		if c.r.Intn(2) == 0 {
			s.Has, s.Mod, s.Name = true, c.maybe(), c.name()
		}
		s.ToMod, s.To = c.maybe(), c.name()
		for range c.few() {
			s.Args = append(s.Args, c.expr())
		}
	case api.SIf:
		s.E, s.Body = c.expr(), c.body()
		if c.r.Intn(2) == 0 {
			s.Else = c.body()
		}
	case api.SWhile:
		s.E, s.Body = c.expr(), c.body()
	case api.SEmit:
		s.Name = c.name()
	}
	return s
}

// expr makes one of any shape, at times a large one or one that is nested deep.
func (c *source) expr() []api.Node {
	size := 1 + 2*c.few()
	if c.r.Intn(20) == 0 {
		size = c.r.Intn(120)
	}
	return c.grow(nil, size, c.r.Intn(2) == 0)
}

// grow adds an expression of about size nodes; a lean one has small operands on one side.
func (c *source) grow(l []api.Node, size int, lean bool) []api.Node {
	c.most--
	n := api.Node{A: -1, B: -1, At: c.at()}
	switch {
	case size <= 1 && c.r.Intn(2) == 0:
		n.Kind, n.Num = api.NNum, c.number()
	case size <= 1:
		n.Kind, n.Mod, n.Name = api.NVar, c.maybe(), c.name()
	case size == 2 || c.r.Intn(6) == 0:
		l = c.grow(l, size-1, lean)
		n.Kind, n.A = api.NNeg+c.r.Intn(2), len(l)-1
	default:
		left := 1 + c.r.Intn(size-2)
		if lean {
			left = []int{1, size - 2}[c.r.Intn(2)]
		}
		l = c.grow(l, left, lean)
		n.Kind, n.A = api.NAdd+c.r.Intn(8), len(l)-1
		l = c.grow(l, size-1-left, lean)
		n.B = len(l) - 1
	}
	return append(l, n)
}
