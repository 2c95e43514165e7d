package parse_test

import (
	"math/rand"
	"slices"
	"strings"
	"testing"

	"aquifer/api"
	"aquifer/lex"
	"aquifer/parse"
)

// chapter is the grammar as the chapter has it, with one rule a line.
const chapter = `
module = "module" name ";" { "import" name ";" } { var | proc }
var = "var" name ":" name "=" [ "-" ] number ";"
proc = "proc" name "(" [ param { "," param } ] ")" [ "->" name ] "pc" name "uses" "{" [ name { "," name } ] "}" block
param = name ":" name
block = "{" { stmt } "}"
stmt = "let" name ":" name "=" expr ";" | qname "=" expr ";" | "result" "=" expr ";" | "call" [ qname "=" ] qname "(" [ expr { "," expr } ] ")" ";" | "if" expr block [ "else" block ] | "while" expr block | "emit" name ";" | "skip" ";"
expr = sum [ ( "==" | "<" | "<=" ) sum ]
sum = term { ( "+" | "-" ) term }
term = unary { ( "*" | "/" | "%" ) unary }
unary = ( "-" | "!" ) unary | number | qname | "(" expr ")"
qname = name [ "." name ]
labels = "labels" { name { "<" name } ";" }
`

// grammar has for each rule its alternatives, as rows of symbols; those that are no rules are tokens, with quotes around
// a keyword or a sign.
type grammar struct {
	rules map[string][][]string
	empty map[string]bool
	words []string // what is left of the text of a rule while it is read
}

// readGrammar makes the rules of a text; each pair of parentheses, brackets or braces is a rule of its own.
func readGrammar(text string) *grammar {
	g := &grammar{rules: map[string][][]string{}, empty: map[string]bool{}}
	for _, line := range strings.Split(strings.TrimSpace(text), "\n") {
		words := strings.Fields(line)
		g.words = words[2:]
		g.rules[words[0]] = g.alternatives()
	}
	for range g.rules {
		for rule, list := range g.rules {
			g.empty[rule] = slices.ContainsFunc(list, g.isEmpty)
		}
	}
	return g
}

func (g *grammar) isEmpty(row []string) bool {
	return !slices.ContainsFunc(row, func(symbol string) bool { return !g.empty[symbol] })
}

func (g *grammar) alternatives() [][]string {
	list := [][]string{nil}
	for len(g.words) > 0 {
		word := g.words[0]
		g.words = g.words[1:]
		last := len(list) - 1
		switch word {
		case ")", "]", "}":
			return list
		case "|":
			list = append(list, nil)
		case "(", "[", "{":
			inner := g.alternatives()
			rule := "part " + strings.Repeat("i", len(g.rules))
			g.rules[rule] = nil
			if word == "{" {
				for i := range inner {
					inner[i] = append(inner[i], rule)
				}
			}
			if word != "(" {
				inner = append(inner, nil)
			}
			g.rules[rule] = inner
			list[last] = append(list[last], rule)
		default:
			list[last] = append(list[last], word)
		}
	}
	return list
}

// item is a rule of which a beginning was seen since the token at from.
type item struct {
	rule      string
	row, seen int
	from      int
}

// chart has for each number of tokens the items that these tokens leave open (by Earley).
type chart struct {
	g    *grammar
	sets [][]item
}

func (g *grammar) start(rule string) chart {
	return chart{g, nil}.grown([]item{{rule: rule}})
}

// rest is what an item still waits for.
func (c chart) rest(i item) []string {
	return c.g.rules[i.rule][i.row][i.seen:]
}

// grown returns the chart with one more set, that of these items and of all that follow from them.
func (c chart) grown(items []item) chart {
	at := len(c.sets)
	known := map[item]bool{}
	var set []item
	add := func(i item) {
		if !known[i] {
			known[i] = true
			set = append(set, i)
		}
	}
	start := func(rule string) {
		for row := range c.g.rules[rule] {
			add(item{rule: rule, row: row, from: at})
		}
	}
	for _, i := range items {
		if at == 0 {
			start(i.rule)
		} else {
			add(i)
		}
	}
	for k := 0; k < len(set); k++ {
		i := set[k]
		rest := c.rest(i)
		switch {
		case len(rest) > 0:
			start(rest[0])
			if c.g.empty[rest[0]] {
				i.seen++
				add(i)
			}
		case i.from < at:
			for _, j := range c.sets[i.from] {
				if r := c.rest(j); len(r) > 0 && r[0] == i.rule {
					j.seen++
					add(j)
				}
			}
		}
	}
	return chart{c.g, append(slices.Clip(c.sets), set)}
}

// next returns the chart behind one more token, and whether this token can occur there.
func (c chart) next(symbol string) (chart, bool) {
	var items []item
	for _, i := range c.sets[len(c.sets)-1] {
		if r := c.rest(i); len(r) > 0 && r[0] == symbol {
			i.seen++
			items = append(items, i)
		}
	}
	if len(items) == 0 {
		return c, false
	}
	return c.grown(items), true
}

// whole tells whether the tokens so far are all of a rule.
func (c chart) whole(rule string) bool {
	return slices.ContainsFunc(c.sets[len(c.sets)-1], func(i item) bool {
		return i.rule == rule && i.from == 0 && len(c.rest(i)) == 0
	})
}

// symbol is how the grammar writes a token.
func symbol(t api.Token) string {
	switch t.Kind {
	case api.TokName:
		return "name"
	case api.TokNum:
		return "number"
	}
	return `"` + t.Text + `"`
}

// firstWrong returns the offset of the first token that cannot occur in a source, or -1.
func firstWrong(g *grammar, rule, s string) int {
	tokens, _, _ := lex.Lex(s)
	c := g.start(rule)
	for _, t := range tokens {
		ok := c.whole(rule)
		if t.Kind != api.TokEnd {
			c, ok = c.next(symbol(t))
		}
		if !ok {
			return t.At
		}
	}
	return -1
}

// fails returns the error of Module or of Labels, and its offset, or -1.
func fails(rule, s string) (api.Errno, int) {
	e, at := api.OK, 0
	if rule == "module" {
		_, e, at = parse.Module(s)
	} else {
		_, e, at = parse.Labels(s)
	}
	if e == api.OK {
		return e, -1
	}
	return e, at
}

// wantFirstWrong checks that the first token that cannot occur is the error, if there is one.
func wantFirstWrong(t *testing.T, g *grammar, rule, s string) {
	t.Helper()
	want, at := api.OK, firstWrong(g, rule, s)
	if at >= 0 {
		want = api.ErrSyntax
	}
	if e, is := fails(rule, s); e != want || is != at {
		t.Fatalf("12.1: %s(%q) = %d at %d; want %d at %d", rule, s, e, is, want, at)
	}
}

// everyToken has each keyword and sign, and one name and number.
const everyToken = "module import var proc pc uses let call if else while emit result skip labels ( ) { } , ; : . = == < <= + - * / % ! -> x 1"

// rows goes through all rows of tokens up to a length behind a beginning that can occur there, and checks what each
// token does at their end.
func rows(t *testing.T, rule, begin string, length int) {
	t.Helper()
	c := readGrammar(chapter).start(rule)
	tokens, _, _ := lex.Lex(begin)
	for _, token := range tokens[:len(tokens)-1] {
		ok := false
		if c, ok = c.next(symbol(token)); !ok {
			t.Fatal("the beginning cannot occur:", begin, token)
		}
	}
	var all func(c chart, s string, more int)
	all = func(c chart, s string, more int) {
		if e, at := fails(rule, s); (e == api.OK) != c.whole(rule) || e != api.OK && (e != api.ErrSyntax || at != len(s)) {
			t.Fatalf("12.1: %s(%q) = %d at %d", rule, s, e, at)
		}
		for _, word := range strings.Fields(everyToken) {
			one, _, _ := lex.Lex(word)
			to, ok := c.next(symbol(one[0]))
			if ok && more > 0 {
				all(to, s+word+" ", more-1)
			}
			if e, at := fails(rule, s+word+" "); ok == (at == len(s)) || !ok && e != api.ErrSyntax {
				t.Fatalf("12.1: %s(%q) = %d at %d; the last token can occur: %t", rule, s+word+" ", e, at, ok)
			}
		}
	}
	all(c, begin, length)
}

// 12.1, 12.3: all short rows of tokens that can occur, and each token behind them, at the beginning and inside.
func TestRows(t *testing.T) {
	length := 5
	if testing.Short() {
		length = 3
	}
	rows(t, "module", "", length+6)
	rows(t, "module", "module m ; import a ; ", length+2)
	rows(t, "module", "module m ; proc p ( ", length+4)
	rows(t, "module", "module m ; proc p ( ) pc l uses ", length)
	rows(t, "module", "module m ; proc p ( ) pc l uses { } { ", length-1)
	rows(t, "module", "module m ; proc p ( ) pc l uses { } { if 1 { } ", length-1)
	rows(t, "module", "module m ; proc p ( ) pc l uses { } { call ", length)
	rows(t, "module", "module m ; proc p ( ) pc l uses { } { let x : l ", length)
	rows(t, "module", "module m ; proc p ( ) pc l uses { } { x = ( 1 < ", length-1)
	rows(t, "labels", "", 2*length)
}

// 12.1: sources of all parts of the grammar, in which tokens are left out, put in and turned at random.
func TestTurned(t *testing.T) {
	g := readGrammar(chapter)
	r := rand.New(rand.NewSource(12))
	words := strings.Fields(everyToken)
	for range 1500 {
		w := &writer{r: r, most: 30 + r.Intn(100)}
		w.module()
		tokens, _, _ := lex.Lex(w.source())
		var list []string
		for _, token := range tokens[:len(tokens)-1] {
			list = append(list, token.Text)
		}
		wantFirstWrong(t, g, "module", strings.Join(list, " "))
		for range 1 + r.Intn(3) {
			i := r.Intn(len(list))
			switch r.Intn(4) {
			case 0:
				list = slices.Delete(list, i, i+1)
			case 1:
				list = slices.Insert(list, i, words[r.Intn(len(words))])
			case 2:
				list[i] = words[r.Intn(len(words))]
			default:
				list = list[:i+1]
			}
			if len(list) == 0 {
				break
			}
			wantFirstWrong(t, g, "module", strings.Join(list, " "))
		}
	}
}

// 12.1, 12.3: rows of any tokens.
func TestAnyTokens(t *testing.T) {
	g := readGrammar(chapter)
	r := rand.New(rand.NewSource(13))
	words := strings.Fields(everyToken)
	for range 5000 {
		s := []string{"", "module m;", "labels ", head, head + "x="}[r.Intn(5)]
		for range r.Intn(8) {
			s += " " + words[r.Intn(len(words))]
		}
		wantFirstWrong(t, g, "module", s)
		wantFirstWrong(t, g, "labels", s)
	}
}
