package parse_test

import (
	"math/rand"
	"reflect"
	"strconv"
	"strings"
	"testing"

	"aquifer/api"
	"aquifer/parse"
)

// writer writes a random source token by token, and makes its tree by what it writes where.
type writer struct {
	r     *rand.Rand
	s     strings.Builder
	most  int  // tokens; about that many at most
	tight bool // no space where none is needed?
	deep  bool // one part inside the other?
	level int
	fault int // offset of the token that first opens more than MaxNest levels, plus 1
}

func (w *writer) source() string {
	return w.s.String()
}

// put writes a token and returns its offset.
func (w *writer) put(token string) int {
	w.most--
	gaps := []string{" ", "\n", "\t ", "  ", " # { ( x\n", "\r\n"}
	switch {
	case !w.tight && w.r.Intn(3) == 0:
		w.s.WriteString(gaps[w.r.Intn(len(gaps))])
	case w.joins(token):
		w.s.WriteString(" ")
	}
	w.s.WriteString(token)
	return w.s.Len() - len(token)
}

// joins tells whether a token would run together with the one before it.
func (w *writer) joins(token string) bool {
	s := w.source()
	if s == "" {
		return false
	}
	last, first := s[len(s)-1], token[0]
	word := func(c byte) bool { return c >= 'a' && c <= 'z' || c >= '0' && c <= '9' || c == '_' }
	return word(last) && word(first) || strings.IndexByte("=<", last) >= 0 && first == '='
}

// open writes a token that opens a level.
func (w *writer) open(token string) int {
	at := w.put(token)
	w.level++
	if w.level > api.MaxNest && w.fault == 0 {
		w.fault = at + 1
	}
	return at
}

func (w *writer) one(words string) string {
	l := strings.Fields(words)
	return l[w.r.Intn(len(l))]
}

func (w *writer) name() string {
	return w.one("a b c x y_1 z9 low high m aaaaaaaaaaaaaaaaaaaa modules ifs")
}

// some returns a number from 0 on, mostly a low one, and 0 when enough is written.
func (w *writer) some() int {
	n := 0
	for w.most > 0 && w.r.Intn(5) < 3 {
		n++
	}
	return n
}

func (w *writer) module() api.Module {
	w.put("module")
	m := api.Module{Name: w.name()}
	m.At = w.put(m.Name)
	w.put(";")
	for range w.some() {
		w.put("import")
		i := api.Import{Name: w.name()}
		i.At = w.put(i.Name)
		w.put(";")
		m.Imports = append(m.Imports, i)
	}
	for w.most > 0 && w.fault == 0 {
		if w.r.Intn(4) == 0 {
			m.Vars = append(m.Vars, w.variable())
		} else {
			m.Procs = append(m.Procs, w.proc())
		}
	}
	return m
}

func (w *writer) number() int {
	n, _ := strconv.Atoi(w.one("0 1 7 10 999999999 123456789 2 3"))
	w.put(strconv.Itoa(n))
	return n
}

func (w *writer) variable() api.Var {
	w.put("var")
	p := w.param()
	v := api.Var{Name: p.Name, Label: p.Label, At: p.At}
	w.put("=")
	if w.r.Intn(2) == 0 {
		w.put("-")
		v.Init = -w.number()
	} else {
		v.Init = w.number()
	}
	w.put(";")
	return v
}

func (w *writer) param() api.Param {
	p := api.Param{Name: w.name(), Label: w.name()}
	p.At = w.put(p.Name)
	w.put(":")
	w.put(p.Label)
	return p
}

func (w *writer) comma(i int) {
	if i > 0 {
		w.put(",")
	}
}

func (w *writer) proc() api.Proc {
	w.put("proc")
	p := api.Proc{Name: w.name(), Pc: w.name(), Has: w.r.Intn(2) == 0}
	p.At = w.put(p.Name)
	w.put("(")
	for i := range w.some() {
		w.comma(i)
		p.Params = append(p.Params, w.param())
	}
	w.put(")")
	if p.Has {
		p.Result = w.name()
		w.put("->")
		w.put(p.Result)
	}
	w.put("pc")
	w.put(p.Pc)
	w.put("uses")
	w.put("{")
	for i := range w.some() {
		w.comma(i)
		p.Uses = append(p.Uses, w.name())
		w.put(p.Uses[i])
	}
	w.put("}")
	p.Body = w.block()
	return p
}

func (w *writer) block() []api.Stmt {
	var l []api.Stmt
	w.open("{")
	if w.deep && w.most > 0 {
		l = append(l, w.stmt())
	}
	for range w.some() {
		l = append(l, w.stmt())
	}
	w.put("}")
	w.level--
	return l
}

func (w *writer) qname() (mod, name string, at int) {
	name = w.name()
	if w.r.Intn(2) == 0 {
		return "", name, w.put(name)
	}
	mod = w.name()
	at = w.put(mod)
	w.put(".")
	w.put(name)
	return mod, name, at
}

func (w *writer) stmt() api.Stmt {
	var s api.Stmt
	kind := 1 + w.r.Intn(8)
	if w.deep && w.r.Intn(4) > 0 {
		kind = api.SIf + w.r.Intn(2)
	}
	s.Kind = kind
	switch kind {
	case api.SIf:
		s.At = w.put("if")
		s.E = w.expr()
		s.Body = w.block()
		if w.r.Intn(2) == 0 {
			w.put("else")
			s.Else = w.block()
		}
		return s
	case api.SWhile:
		s.At = w.put("while")
		s.E = w.expr()
		s.Body = w.block()
		return s
	}
	w.simple(&s)
	w.put(";")
	return s
}

func (w *writer) simple(s *api.Stmt) {
	switch s.Kind {
	case api.SLet:
		s.At = w.put("let")
		p := w.param()
		s.Name, s.Label = p.Name, p.Label
		w.put("=")
		s.E = w.expr()
	case api.SSet:
		s.Mod, s.Name, s.At = w.qname()
		w.put("=")
		s.E = w.expr()
	case api.SResult:
		s.At = w.put("result")
		w.put("=")
		s.E = w.expr()
	case api.SCall:
		s.At = w.put("call")
		if w.r.Intn(2) == 0 {
			s.Has = true
			s.Mod, s.Name, _ = w.qname()
			w.put("=")
		}
		s.ToMod, s.To, _ = w.qname()
		w.put("(")
		for i := range w.some() {
			w.comma(i)
			s.Args = append(s.Args, w.expr())
		}
		w.put(")")
	case api.SEmit:
		s.At = w.put("emit")
		s.Name = w.name()
		w.put(s.Name)
	case api.SSkip:
		s.At = w.put("skip")
	}
}

// tree is an expression before it is written.
type tree struct {
	node api.Node
	kids []*tree
}

var ops = []string{api.NNeg: "-", api.NNot: "!", api.NAdd: "+", api.NSub: "-", api.NMul: "*", api.NDiv: "/", api.NMod: "%", api.NEq: "==", api.NLt: "<", api.NLe: "<="}

// binds tells how close the kinds of nodes bind.
var binds = []int{
	api.NEq: 1, api.NLt: 1, api.NLe: 1, api.NAdd: 2, api.NSub: 2, api.NMul: 3, api.NDiv: 3, api.NMod: 3, api.NNeg: 4, api.NNot: 4, api.NNum: 5, api.NVar: 5,
}

// grow makes a tree of any shape of about size nodes.
func (w *writer) grow(size int) *tree {
	switch {
	case size <= 1:
		return &tree{node: api.Node{Kind: api.NNum + w.r.Intn(2)}}
	case size == 2 || w.r.Intn(4) == 0:
		return &tree{api.Node{Kind: api.NNeg + w.r.Intn(2)}, []*tree{w.grow(size - 1)}}
	}
	left := 1 + w.r.Intn(size-2)
	if w.deep {
		left = 1
		if w.r.Intn(2) == 0 {
			left = size - 2
		}
	}
	return &tree{api.Node{Kind: api.NAdd + w.r.Intn(8)}, []*tree{w.grow(left), w.grow(size - 1 - left)}}
}

// expr writes a random expression and returns its nodes.
func (w *writer) expr() []api.Node {
	size := 1 + 2*w.some()
	if w.deep && w.r.Intn(8) == 0 {
		size = w.r.Intn(100)
	}
	t := w.grow(size)
	w.write(t, 1)
	return t.nodes(nil)
}

// write writes a tree where what binds less than least needs parentheses.
func (w *writer) write(t *tree, least int) {
	b := binds[t.node.Kind]
	if b < least || w.r.Intn(8) == 0 {
		w.open("(")
		w.write(t, 1)
		w.put(")")
		w.level--
		return
	}
	n := &t.node
	switch {
	case n.Kind == api.NNum:
		n.At = w.s.Len()
		n.Num = w.number()
		n.At = w.s.Len() - len(strconv.Itoa(n.Num))
	case n.Kind == api.NVar:
		n.Mod, n.Name, n.At = w.qname()
	case len(t.kids) == 1:
		n.At = w.open(ops[n.Kind])
		w.write(t.kids[0], b)
		w.level--
	default:
		left := b
		if b == 1 {
			left = 2 // comparisons stand alone
		}
		w.write(t.kids[0], left)
		n.At = w.put(ops[n.Kind])
		w.write(t.kids[1], b+1)
	}
}

// nodes adds the nodes of a tree in post-order.
func (t *tree) nodes(l []api.Node) []api.Node {
	n := t.node
	places := []int{-1, -1}
	for i, kid := range t.kids {
		l = kid.nodes(l)
		places[i] = len(l) - 1
	}
	n.A, n.B = places[0], places[1]
	return append(l, n)
}

// wantWritten checks the tree of what a writer wrote, or the error of its levels.
func wantWritten(t *testing.T, w *writer, want api.Module) {
	t.Helper()
	if w.s.Len() > api.MaxText {
		wantError(t, w.source(), api.ErrLong, api.MaxText)
	} else if w.fault > 0 {
		wantError(t, w.source(), api.ErrDeep, w.fault-1)
	} else {
		wantModule(t, w.source(), want)
	}
}

// 12.1, 12.2: random modules of all parts of the grammar.
func TestWritten(t *testing.T) {
	r := rand.New(rand.NewSource(14))
	for i := range 4000 {
		w := &writer{r: r, most: r.Intn(1 << (i % 10)), tight: i%3 == 0}
		m := w.module()
		wantWritten(t, w, m)
	}
}

// 12.1, 12.2: random modules whose parts stand one inside the other, about half of them too deep.
func TestWrittenDeep(t *testing.T) {
	r := rand.New(rand.NewSource(15))
	count := map[bool]int{}
	for i := range 6000 {
		w := &writer{r: r, most: 100 + r.Intn(500), tight: i%3 > 0, deep: true}
		m := w.module()
		wantWritten(t, w, m)
		count[w.fault > 0]++
	}
	if count[true] < 500 || count[false] < 500 {
		t.Error("too few of one kind:", count)
	}
}

// 12.3: random lines of labels.
func TestWrittenLabels(t *testing.T) {
	r := rand.New(rand.NewSource(16))
	for i := range 4000 {
		w := &writer{r: r, most: r.Intn(100), tight: i%3 == 0}
		w.put("labels")
		var want []api.Param
		for range w.some() + w.some() {
			below := w.name()
			at := w.put(below)
			n := w.some()
			if n == 0 {
				want = append(want, pair(below, "", at))
			}
			for range n {
				w.put("<")
				above := w.name()
				want = append(want, pair(below, above, w.put(above)))
				below = above
			}
			w.put(";")
		}
		wantLabels(t, w.source(), want...)
	}
}

// memory is the bytes of a slice, with its spare capacity.
type memory struct{ from, to uintptr }

// slicesOf adds what all slices of a value hold.
func slicesOf(v reflect.Value, l []memory) []memory {
	switch v.Kind() {
	case reflect.Struct:
		for i := range v.NumField() {
			l = slicesOf(v.Field(i), l)
		}
	case reflect.Slice:
		if v.Cap() > 0 {
			l = append(l, memory{v.Pointer(), v.Pointer() + uintptr(v.Cap())*v.Type().Elem().Size()})
		}
		for i := range v.Len() {
			l = slicesOf(v.Index(i), l)
		}
	}
	return l
}

// R1, R3: all slices of results are memory of their own, and the same source has the same result.
func TestResults(t *testing.T) {
	r := rand.New(rand.NewSource(17))
	for range 20 {
		w := &writer{r: r, most: 300}
		w.module()
		first, _, _ := parse.Module(w.source())
		second, _, _ := parse.Module(w.source())
		labels, _, _ := parse.Labels("labels a<b<c;d;")
		again, _, _ := parse.Labels("labels a<b<c;d;")
		if text(first) != text(second) || text(labels) != text(again) {
			t.Errorf("R1: two results for %q", w.source())
		}
		var l []memory
		for _, v := range []any{first, second, labels, again} {
			l = slicesOf(reflect.ValueOf(v), l)
		}
		for i, a := range l {
			for _, b := range l[:i] {
				if a.from < b.to && b.from < a.to {
					t.Fatalf("R3: two slices share memory in the results for %q", w.source())
				}
			}
		}
		parse.Module("module m; x")
		if text(first) != text(second) {
			t.Error("R3: a later call changed a result")
		}
	}
}

// R1: no text makes a call panic, and each text has either a tree or an error.
func TestAnyBytes(t *testing.T) {
	r := rand.New(rand.NewSource(18))
	for range 20000 {
		w := &writer{r: r, most: r.Intn(60)}
		w.module()
		b := []byte(w.source())
		for range r.Intn(4) {
			b[r.Intn(len(b))] = byte(r.Intn(256))
		}
		s := string(b[:r.Intn(len(b)+1)])
		m, e, at := parse.Module(s)
		if (e == api.OK) != (m.Name != "") || at < 0 || at > len(s) || e == api.OK && at != 0 {
			t.Fatalf("R1: Module(%q) = %s %d %d", s, text(m), e, at)
		}
	}
}
