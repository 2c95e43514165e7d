package flow_test

import (
	"math/rand"
	"slices"
	"strings"
	"testing"

	"aquifer/api"
	"aquifer/face"
	"aquifer/flow"
)

// orders are sources of labels: one, chains, a diamond, and lattices that are not distributive.
var orders = []string{
	"labels a;", "labels b<a;", "labels a<b<c;", "labels a<b<d;a<c<d;", "labels d<b<a;d<c<a;", "labels a<b<e;a<c<e;a<d<e;", "labels e<b<c<a;e<d<a;",
	"labels l<k<j<i<h<g<f<e<d<c<b<a;", "labels a<b<d;a<c<d;d<e<g;d<f<g;",
}

// source makes random modules, by their texts, and interfaces.
type source struct {
	r      *rand.Rand
	labels []string
	most   int // statements
}

func (c *source) one(l ...string) string {
	return l[c.r.Intn(len(l))]
}

func (c *source) rare(n int) bool {
	return c.r.Intn(n) == 0
}

// label returns a label, seldom one that there is not.
func (c *source) label(n int) string {
	if c.rare(n) {
		return "no"
	}
	return c.one(c.labels...)
}

// some returns some of these in any order, seldom one of them again.
func (c *source) some(l ...string) []string {
	l = slices.Clone(l)
	c.shuffle(l)
	if c.rare(2) {
		l = l[:c.r.Intn(len(l)+1)]
	}
	if len(l) > 0 && c.rare(50) {
		l = append(l, l[0])
	}
	return l
}

func (c *source) shuffle(l []string) {
	c.r.Shuffle(len(l), func(i, j int) { l[i], l[j] = l[j], l[i] })
}

// any returns up to that many of these, as often as it happens.
func (c *source) any(most int, l ...string) []string {
	var all []string
	for range c.r.Intn(most + 1) {
		all = append(all, c.one(l...))
	}
	return all
}

// arity returns a number of arguments or parameters, mostly that of all procedures of a name.
func (c *source) arity(name string) int {
	switch {
	case c.rare(6):
		return c.r.Intn(3)
	case name == "q":
		return 2
	}
	return 1
}

func (c *source) params(n int) string {
	names := []string{"x", "y", "u"}
	if c.rare(20) {
		names = []string{"x", "x", "y"}
	}
	c.shuffle(names)
	var l []string
	for _, s := range names[:n] {
		l = append(l, s+":"+c.label(300))
	}
	return strings.Join(l, ",")
}

func (c *source) module() string {
	s := "module m;"
	for _, i := range c.some("a", "b", "c", "d") {
		s += "import " + i + ";"
	}
	for _, name := range c.some("x", "y", "z", "p", "q", "r") {
		if name >= "x" != c.rare(8) {
			s += "var " + name + ":" + c.label(300) + "=" + c.one("0", "-1", "12") + ";"
			continue
		}
		s += "proc " + name + "(" + c.params(c.arity(name)) + ")"
		if c.rare(2) {
			s += "->" + c.label(300)
		}
		c.most = 1 + c.r.Intn(12)
		s += " pc " + c.label(300) + " uses{" + strings.Join(c.any(3, "s", "t", "w"), ",") + "}" + c.block()
	}
	return s
}

func (c *source) block() string {
	s := "{"
	for c.most > 0 && !c.rare(5) {
		c.most--
		s += c.stmt()
	}
	return s + "}"
}

func (c *source) qname(l ...string) string {
	s := c.one(l...)
	switch {
	case c.rare(30):
		return c.one("e", "m") + "." + s
	case c.rare(3):
		return c.one("a", "a", "b", "c", "d") + c.one(".", ".", " . ") + s
	}
	return s
}

func (c *source) variable() string {
	return c.qname("x", "x", "x", "y", "y", "y", "z", "z", "u", "v", "p")
}

func (c *source) stmt() string {
	switch c.r.Intn(13) {
	case 0, 1, 2:
		return "let " + c.one("x", "y", "u", "v", "p") + ":" + c.label(8) + "=" + c.expr() + ";"
	case 3, 4, 5:
		return c.variable() + "=" + c.expr() + ";"
	case 6:
		return "result=" + c.expr() + ";"
	case 7:
		return "if " + c.expr() + c.block()
	case 8:
		return "if " + c.expr() + c.block() + "else" + c.block()
	case 9:
		return "while " + c.expr() + c.block()
	case 10:
		return c.one("skip", "emit s", "emit t", "emit w") + ";"
	}
	s := "call "
	if c.rare(2) {
		s += c.variable() + "="
	}
	name := c.one("p", "p", "q", "q", "r", "x")
	var args []string
	for range c.arity(name) {
		args = append(args, c.expr())
	}
	return s + c.qname(name) + "(" + strings.Join(args, ",") + ");"
}

func (c *source) expr() string {
	switch c.r.Intn(8) {
	case 0, 1:
		return c.one("0", "1", "12")
	case 2, 3, 4:
		return c.variable()
	case 5:
		return c.one("-", "!") + c.one(c.variable(), "("+c.expr()+")")
	}
	return "(" + c.expr() + c.one("+", "-", "*", "/", "%", "==", "<", "<=") + c.expr() + ")"
}

// face returns a random interface, by the words of chapter 15; some of its labels are not there.
func (c *source) face() api.Face {
	var f api.Face
	for _, s := range []string{"p", "x", "y", "z"} {
		if !c.rare(3) {
			f.Vars = append(f.Vars, api.Var{Name: s, Label: c.label(10)})
		}
	}
	for _, s := range []string{"p", "q", "r", "x"} {
		if c.rare(6) {
			continue
		}
		p := api.Sig{Name: s, Pc: c.label(10), Uses: face.Union(c.any(3, "s", "t", "w"), nil), Has: c.rare(2)}
		if p.Has {
			p.Result = c.label(10)
		}
		for range c.arity(s) {
			p.Params = append(p.Params, c.label(10))
		}
		f.Procs = append(f.Procs, p)
	}
	return f
}

func (c *source) known() []flow.Known {
	var l []flow.Known
	for _, s := range c.any(12, "a", "a", "b", "c", "d", "e", "m") {
		k := flow.Known{Name: s}
		if !c.rare(6) {
			k.Has, k.Face = true, c.face()
		}
		l = append(l, k)
	}
	return l
}

// randoms calls a function with random modules, lattices and interfaces.
func randoms(t *testing.T, seed int64, n int, use func(c *source, m api.Module, lat api.Lattice, known []flow.Known)) {
	t.Helper()
	c := &source{r: rand.New(rand.NewSource(seed))}
	for range n {
		lat := lattice(t, c.one(orders...))
		c.labels = lat.Names
		use(c, parsed(t, c.module()), lat, c.known())
	}
}

// 16.1 to 16.4: random modules.
func TestRandom(t *testing.T) {
	count := map[int]int{}
	accepted, refused := 0, 0
	randoms(t, 1, 10000, func(c *source, m api.Module, lat api.Lattice, known []flow.Known) {
		l := wantModel(t, m, lat, known)
		if _, of := face.Of(m, lat); len(of) > 0 {
			refused++
			return
		}
		if len(l) == 0 && len(m.Procs) > 0 {
			accepted++
		}
		for _, d := range l {
			count[d.Code]++
		}
	})
	for code, name := range codes {
		if name != "" && count[code] < 500 {
			t.Errorf("chapter 16: only %d times %s", count[code], name)
		}
	}
	if accepted < 100 || refused < 500 {
		t.Errorf("chapter 16: only %d modules accepted, and of %d no interface", accepted, refused)
	}
}

// each are statements that are put together in TestPairs.
var each = strings.Split(`l=1|l=h|e=e|x=1|l=x|h=x+y|a.lo=x|a.le=e|b.x=h|c.x=1|let x:low=1|let x:high=h|let x:no=l|let l:high=h|let h:low=1|let x:low=x|let ph:low=ph|`+
	`let pl:left=e|result=1|result=e|result=r|result=x|call own(1,1)|call l=own(e,l)|call x=own(h,h)|call e=p(pl,x)|call own(1)|call l=void()|call a.two(e,r)|`+
	`call x=a.two(r,e)|call x=b.y(x,h)|call c.p()|call x(x)|call h=a.highs(x)|call odd.p(x)|call x=odd.q()|emit u|emit w|skip|call b.x=a.lows(h)`, "|")

// 16.1 to 16.4: all pairs of some statements, one after the other and in the blocks of others.
func TestPairs(t *testing.T) {
	lat := lattice(t, diamond)
	known := around(t, lat)
	for _, s := range each {
		for _, u := range each {
			for _, body := range []string{
				"1;2;", "if e{1;2;}2;", "if h{1;}else{2;}1;", "while r{1;}2;", "1;while x{2;1;}", "let x:left=e;if x{1;if r{2;}}else{2;}", "if e{}1;while e{}2;",
			} {
				body = strings.NewReplacer("1;", s+";", "2;", u+";").Replace(body)
				wantModel(t, parsed(t, head+body+"}"), lat, known)
			}
		}
	}
}
