package lex_test

import (
	"fmt"
	"math/rand"
	"regexp"
	"slices"
	"strings"
	"testing"

	"aquifer/api"
	"aquifer/lex"
)

var keywords = []string{
	"module", "import", "var", "proc", "pc", "uses", "let", "call",
	"if", "else", "while", "emit", "result", "skip", "labels",
}

var signs = []string{
	"(", ")", "{", "}", ",", ";", ":", ".", "=", "==", "<", "<=", "+", "-", "*", "/", "%", "!", "->",
}

// tok, the name of a kind, a text and an offset, is how the tests write a token.
func tok(kind int, text string, at int) api.Token {
	return api.Token{Kind: kind, Text: text, At: at}
}

// wantTokens checks that a source has these tokens, and behind them the last one.
func wantTokens(t *testing.T, s string, want ...api.Token) {
	t.Helper()
	want = append(slices.Clone(want), tok(api.TokEnd, "", len(s)))
	if got, e, at := lex.Lex(s); e != api.OK || at != 0 || !slices.Equal(got, want) {
		t.Errorf("11.1: Lex(%.80q) = %.300v %d %d; want %.300v", s, got, e, at, want)
	}
}

// wantError checks that a source has no tokens, but an error at an offset.
func wantError(t *testing.T, s string, want api.Errno, offset int) {
	t.Helper()
	if got, e, at := lex.Lex(s); e != want || at != offset || got != nil {
		t.Errorf("11.1: Lex(%.80q) = %.300v %d %d; want error %d at %d", s, got, e, at, want, offset)
	}
}

// 11.1: the examples of the chapter.
func TestExamples(t *testing.T) {
	wantTokens(t, "x=1;", tok(api.TokName, "x", 0), tok(api.TokSign, "=", 1), tok(api.TokNum, "1", 2), tok(api.TokSign, ";", 3))
	wantError(t, "x 1a", api.ErrWord, 2)
}

// 11.1: a source of a module, with all kinds of tokens and separators.
func TestModule(t *testing.T) {
	wantTokens(t, "module m; # call\nproc p_1()->l\r\n\tpc l{ m.x=-10<=y%2; }",
		tok(api.TokWord, "module", 0), tok(api.TokName, "m", 7), tok(api.TokSign, ";", 8),
		tok(api.TokWord, "proc", 17), tok(api.TokName, "p_1", 22), tok(api.TokSign, "(", 25), tok(api.TokSign, ")", 26),
		tok(api.TokSign, "->", 27), tok(api.TokName, "l", 29),
		tok(api.TokWord, "pc", 33), tok(api.TokName, "l", 36), tok(api.TokSign, "{", 37),
		tok(api.TokName, "m", 39), tok(api.TokSign, ".", 40), tok(api.TokName, "x", 41), tok(api.TokSign, "=", 42),
		tok(api.TokSign, "-", 43), tok(api.TokNum, "10", 44), tok(api.TokSign, "<=", 46), tok(api.TokName, "y", 48),
		tok(api.TokSign, "%", 49), tok(api.TokNum, "2", 50), tok(api.TokSign, ";", 51), tok(api.TokSign, "}", 53))
}

// 11.1: without a token there is the last one, whose offset is the length.
func TestNoTokens(t *testing.T) {
	for _, s := range []string{
		"", " ", "\t", "\n", "\r", " \t\r\n \n", "#", "##", "# a", "#\n", "#a\n#b", "\n#\r\n\n", "# ?", "#\xff\x00é", "#A\n \n#1a",
	} {
		wantTokens(t, s)
	}
}

// 11.1: a keyword is a token of another kind than a name; one byte less or more makes a name of it.
func TestKeywords(t *testing.T) {
	for _, k := range keywords {
		wantTokens(t, k, tok(api.TokWord, k, 0))
		wantTokens(t, " "+k+" ", tok(api.TokWord, k, 1))
		wantTokens(t, k+";"+k, tok(api.TokWord, k, 0), tok(api.TokSign, ";", len(k)), tok(api.TokWord, k, len(k)+1))
		names := []string{k + k, k + "s", k + "0", k + "_", "a" + k, k[:1], k[1:], k[:len(k)-1]}
		for _, other := range keywords {
			names = append(names, k+other, k+"_"+other)
		}
		for _, name := range names {
			if !slices.Contains(keywords, name) {
				wantTokens(t, name, tok(api.TokName, name, 0))
			}
		}
		wantError(t, strings.ToUpper(k), api.ErrWord, 0)
		wantError(t, k+" "+strings.ToUpper(k), api.ErrWord, len(k)+1)
		wantError(t, strings.ToUpper(k[:1])+k[1:], api.ErrWord, 0)
	}
	for _, name := range []string{"int", "bool", "for", "func", "end", "true", "label", "return", "name"} {
		wantTokens(t, name, tok(api.TokName, name, 0))
	}
}

// 11.1: what a word may begin with, and what it goes on with: every byte in both places.
func TestWordBytes(t *testing.T) {
	for b := range 256 {
		c := string([]byte{byte(b)})
		s := "q" + c + "q"
		switch {
		case regexp.MustCompile(`^[a-z]$`).MatchString(c):
			wantTokens(t, c, tok(api.TokName, c, 0))
			wantTokens(t, s, tok(api.TokName, s, 0))
		case regexp.MustCompile(`^[0-9_]$`).MatchString(c):
			wantTokens(t, s, tok(api.TokName, s, 0))
			wantError(t, c+"q", api.ErrWord, 0)
		case strings.Contains(" \t\r\n", c):
			wantTokens(t, c)
			wantTokens(t, s, tok(api.TokName, "q", 0), tok(api.TokName, "q", 2))
		case c == "#":
			wantTokens(t, s, tok(api.TokName, "q", 0))
		case slices.Contains(signs, c):
			wantTokens(t, c, tok(api.TokSign, c, 0))
			wantTokens(t, s, tok(api.TokName, "q", 0), tok(api.TokSign, c, 1), tok(api.TokName, "q", 2))
		default:
			wantError(t, c, api.ErrWord, 0)
			wantError(t, s, api.ErrWord, 1)
			wantError(t, "q "+c, api.ErrWord, 2)
		}
	}
	for c := 'a'; c <= 'z'; c++ {
		s := strings.Repeat(string(c), 3)
		wantTokens(t, s+" "+s, tok(api.TokName, s, 0), tok(api.TokName, s, 4))
	}
	wantTokens(t, "a0123456789_", tok(api.TokName, "a0123456789_", 0))
	wantTokens(t, "a__", tok(api.TokName, "a__", 0))
	wantError(t, "_", api.ErrWord, 0)
	wantError(t, "é", api.ErrWord, 0)
	wantError(t, "aé", api.ErrWord, 1)
	// A letter by Unicode, and one that in lower case is a k, are none from a to z.
	wantError(t, "a\u212a", api.ErrWord, 1)
}

// 11.1: a word has at most MaxName bytes, whatever they are.
func TestWordLength(t *testing.T) {
	for _, more := range []string{"a", "z", "0", "_"} {
		for n := 1; n <= 3*api.MaxName; n++ {
			w := "a" + strings.Repeat(more, n-1)
			if n > api.MaxName {
				wantError(t, w, api.ErrLong, 0)
				wantError(t, "b  "+w+";", api.ErrLong, 3)
				wantError(t, "b#?\n"+w+"?", api.ErrLong, 4)
				continue
			}
			wantTokens(t, w, tok(api.TokName, w, 0))
			wantTokens(t, "b  "+w+";", tok(api.TokName, "b", 0), tok(api.TokName, w, 3), tok(api.TokSign, ";", 3+n))
		}
	}
	// A keyword at the beginning of a long word does not make it two.
	wantError(t, "module_a1234567890123", api.ErrLong, 0)
	wantTokens(t, "module_a123456789012", tok(api.TokName, "module_a123456789012", 0))
	wantError(t, strings.Repeat("a", api.MaxText), api.ErrLong, 0)
}

// 11.1: numbers of up to MaxDigit digits, without a leading zero.
func TestNumbers(t *testing.T) {
	for _, s := range []string{
		"0", "1", "2", "3", "4", "5", "6", "7", "8", "9", "10", "90", "100", "101", "99999999", "100000000", "123456789", "999999999",
	} {
		wantTokens(t, s, tok(api.TokNum, s, 0))
		wantTokens(t, "-"+s+"-", tok(api.TokSign, "-", 0), tok(api.TokNum, s, 1), tok(api.TokSign, "-", 1+len(s)))
		wantTokens(t, s+" 7 "+s, tok(api.TokNum, s, 0), tok(api.TokNum, "7", len(s)+1), tok(api.TokNum, s, len(s)+3))
	}
	for n := 1; n <= 3*api.MaxDigit; n++ {
		s := strings.Repeat("9", n)
		if n > api.MaxDigit {
			wantError(t, s, api.ErrLong, 0)
			wantError(t, "x="+s+";", api.ErrLong, 2)
		} else {
			wantTokens(t, s, tok(api.TokNum, s, 0))
		}
	}
	for _, s := range []string{"00", "01", "09", "000", "0000", "010", "012345678", "000000000", "00a", "01_"} {
		wantError(t, s, api.ErrWord, 0)
		wantError(t, " ("+s+")", api.ErrWord, 2)
	}
	wantError(t, strings.Repeat("1", api.MaxText), api.ErrLong, 0)
}

// 11.1: what follows a number: every byte.
func TestBehindNumber(t *testing.T) {
	for b := range 256 {
		c := string([]byte{byte(b)})
		for _, n := range []string{"0", "7", "123456789"} {
			s := ";" + n + c
			switch {
			case regexp.MustCompile(`^[a-z_]$`).MatchString(c):
				wantError(t, s, api.ErrWord, 1)
				wantError(t, s+"1", api.ErrWord, 1)
			case regexp.MustCompile(`^[0-9]$`).MatchString(c) && n == "7":
				wantTokens(t, s, tok(api.TokSign, ";", 0), tok(api.TokNum, n+c, 1))
			case regexp.MustCompile(`^[0-9]$`).MatchString(c) && n == "0":
				wantError(t, s, api.ErrWord, 1)
			case regexp.MustCompile(`^[0-9]$`).MatchString(c):
				wantError(t, s, api.ErrLong, 1)
			case strings.Contains(" \t\r\n#", c):
				wantTokens(t, s, tok(api.TokSign, ";", 0), tok(api.TokNum, n, 1))
			case slices.Contains(signs, c):
				wantTokens(t, s, tok(api.TokSign, ";", 0), tok(api.TokNum, n, 1), tok(api.TokSign, c, 1+len(n)))
			default:
				wantError(t, s, api.ErrWord, 1+len(n))
			}
		}
	}
}

// 11.1: a number that is too long is ErrLong, whatever else is wrong with it.
func TestNumberErrors(t *testing.T) {
	for _, s := range []string{"1234567890", "0123456789", "0000000000", "1234567890a", "0123456789_", "0000000000a_"} {
		wantError(t, s, api.ErrLong, 0)
		wantError(t, "a "+s, api.ErrLong, 2)
	}
	for _, s := range []string{"012345678", "123456789a", "012345678a", "0a", "0_", "1a1234567890", "1_a1234567890123456789012"} {
		wantError(t, s, api.ErrWord, 0)
		wantError(t, "a "+s, api.ErrWord, 2)
	}
}

// 11.1: each sign alone, and between others.
func TestSigns(t *testing.T) {
	for _, s := range signs {
		wantTokens(t, s, tok(api.TokSign, s, 0))
		wantTokens(t, "a"+s+"1", tok(api.TokName, "a", 0), tok(api.TokSign, s, 1), tok(api.TokNum, "1", 1+len(s)))
		wantTokens(t, "# "+s+"\n"+s+"#"+s, tok(api.TokSign, s, 3+len(s)))
	}
	for _, s := range []string{">", "&", "|", "[", "]", "'", "\"", "\\", "?", "@", "$", "^", "~", "`", "\x00", "\x0b", "\x0c", "\x7f", "\x80", "\xff", "\u00a0", "\u2028"} {
		wantError(t, s, api.ErrWord, 0)
		wantError(t, "a "+s+" b", api.ErrWord, 2)
		wantError(t, "a= "+s, api.ErrWord, 3)
	}
	for _, s := range []string{">=", ">", ">>"} {
		wantError(t, "1"+s+"1", api.ErrWord, 1)
	}
}

// 11.1: of the signs that fit, the longest is taken; a space between two parts keeps them apart.
func TestLongestSign(t *testing.T) {
	sign := func(text string, at int) api.Token { return tok(api.TokSign, text, at) }
	wantTokens(t, "===", sign("==", 0), sign("=", 2))
	wantTokens(t, "====", sign("==", 0), sign("==", 2))
	wantTokens(t, "<==", sign("<=", 0), sign("=", 2))
	wantTokens(t, "=<=", sign("=", 0), sign("<=", 1))
	wantTokens(t, "<<=", sign("<", 0), sign("<=", 1))
	wantTokens(t, "<-", sign("<", 0), sign("-", 1))
	wantTokens(t, "-->", sign("-", 0), sign("->", 1))
	wantTokens(t, "->->-", sign("->", 0), sign("->", 2), sign("-", 4))
	wantTokens(t, "!=", sign("!", 0), sign("=", 1))
	wantTokens(t, "+=", sign("+", 0), sign("=", 1))
	wantTokens(t, "++", sign("+", 0), sign("+", 1))
	wantTokens(t, "= =", sign("=", 0), sign("=", 2))
	wantTokens(t, "<\n=", sign("<", 0), sign("=", 2))
	wantTokens(t, "<#\n=", sign("<", 0), sign("=", 3))
	wantError(t, "->>", api.ErrWord, 2)
	wantError(t, "- >", api.ErrWord, 2)
	wantError(t, "=>", api.ErrWord, 1)
	wantError(t, "<>", api.ErrWord, 1)
}

// 11.1: separators between tokens count in the offsets only, and two tokens need none if they do not run together.
func TestSeparators(t *testing.T) {
	for _, gap := range []string{" ", "\t", "\n", "\r", "  ", "\r\n", " \t\r\n ", "#\n", "# b\n", "#=1;\n\n#?\n", "\t# #\r\n ", "#A\xff\x00\n"} {
		n := len(gap)
		wantTokens(t, gap+"a", tok(api.TokName, "a", n))
		wantTokens(t, "a"+gap, tok(api.TokName, "a", 0))
		wantTokens(t, "a"+gap+"b", tok(api.TokName, "a", 0), tok(api.TokName, "b", 1+n))
		wantTokens(t, "1"+gap+"a", tok(api.TokNum, "1", 0), tok(api.TokName, "a", 1+n))
		wantTokens(t, "0"+gap+"0", tok(api.TokNum, "0", 0), tok(api.TokNum, "0", 1+n))
		wantTokens(t, "="+gap+"="+gap, tok(api.TokSign, "=", 0), tok(api.TokSign, "=", 1+n))
		wantTokens(t, gap+gap+"if"+gap+gap, tok(api.TokWord, "if", 2*n))
		wantError(t, "a"+gap+"A", api.ErrWord, 1+n)
	}
	wantTokens(t, "a;1<b", tok(api.TokName, "a", 0), tok(api.TokSign, ";", 1), tok(api.TokNum, "1", 2), tok(api.TokSign, "<", 3), tok(api.TokName, "b", 4))
	for _, c := range []string{"\x00", "\x08", "\x0b", "\x0c", "\x0e", "\x1c", "\x85", "\u0085", "\u00a0", "\u3000"} {
		wantError(t, "a"+c+"b", api.ErrWord, 1)
	}
}

// 11.1: a comment goes from # to the end of its line, which is byte 10, and no further.
func TestComments(t *testing.T) {
	wantTokens(t, "a#b", tok(api.TokName, "a", 0))
	wantTokens(t, "a#b\nc", tok(api.TokName, "a", 0), tok(api.TokName, "c", 4))
	wantTokens(t, "a#b#c\nd#e\n", tok(api.TokName, "a", 0), tok(api.TokName, "d", 6))
	wantTokens(t, "#\na", tok(api.TokName, "a", 2))
	wantTokens(t, "#\n\n#\na\n#", tok(api.TokName, "a", 5))
	wantTokens(t, "#a\r\nb", tok(api.TokName, "b", 4))
	wantTokens(t, "#a\rb\nc", tok(api.TokName, "c", 5))
	wantTokens(t, "#a\rb")
	wantTokens(t, "1#a\n2", tok(api.TokNum, "1", 0), tok(api.TokNum, "2", 4))
	wantTokens(t, "# a\u2028b\u0085c\x0bd")
	wantError(t, "#?\n?", api.ErrWord, 3)
	wantError(t, "a#\n_", api.ErrWord, 3)
}

// 11.1: the first error that is met decides, whatever comes behind it.
func TestFirstError(t *testing.T) {
	long, number := strings.Repeat("a", api.MaxName+1), strings.Repeat("1", api.MaxDigit+1)
	errors := []struct {
		s string
		e api.Errno
	}{{"?", api.ErrWord}, {"A", api.ErrWord}, {"_", api.ErrWord}, {"01", api.ErrWord}, {"1a", api.ErrWord}, {long, api.ErrLong}, {number, api.ErrLong}}
	for _, first := range errors {
		for _, second := range errors {
			wantError(t, first.s+" "+second.s, first.e, 0)
			wantError(t, "if x\n"+first.s+"\n"+second.s, first.e, 5)
			wantError(t, "#"+second.s+"\n"+first.s, first.e, len(second.s)+2)
		}
	}
}

// 11.1: more than MaxText bytes are ErrLong at MaxText, whatever they are; of MaxText bytes all count.
func TestTextLength(t *testing.T) {
	for _, c := range []string{" ", "\n", "#", "a", "1", "0", ";", "=", "?", "A", "\x00", "é"} {
		for _, n := range []int{api.MaxText + 1, api.MaxText + 2, 2 * api.MaxText, 1 << 20} {
			wantError(t, strings.Repeat(c, n)[:n], api.ErrLong, api.MaxText)
		}
	}
	wantError(t, "?"+strings.Repeat(" ", api.MaxText), api.ErrLong, api.MaxText)
	for n := api.MaxText - 2; n <= api.MaxText; n++ {
		wantTokens(t, strings.Repeat(" ", n))
		wantTokens(t, strings.Repeat("#", n))
		wantTokens(t, strings.Repeat(" ", n-2)+"if", tok(api.TokWord, "if", n-2))
		wantTokens(t, "if"+strings.Repeat("\n", n-2), tok(api.TokWord, "if", 0))
		wantError(t, strings.Repeat(" ", n-1)+"?", api.ErrWord, n-1)
		wantError(t, strings.Repeat(" ", n-2)+"1a", api.ErrWord, n-2)

		var many []api.Token
		for i := range n {
			many = append(many, tok(api.TokSign, ";", i))
		}
		wantTokens(t, strings.Repeat(";", n), many...)
	}
	wantTokens(t, "# "+strings.Repeat("é", api.MaxText/2-1))
}

// The parts of a source as the chapter says them.
var (
	gapRule    = regexp.MustCompile(`^(?:[ \t\n\r]|#[^\n]*)+`)
	wordRule   = regexp.MustCompile(`^[a-z][a-z0-9_]*`)
	numberRule = regexp.MustCompile(`^[0-9]+`)
	signRule   = regexp.MustCompile(`^(?:==|<=|->|[(){},;:.=<+\-*/%!])`)
	badNumber  = regexp.MustCompile(`^(?:0[0-9]|[0-9]+[a-z_])`)
)

// model is Lex by these rules.
func model(s string) ([]api.Token, api.Errno, int) {
	if len(s) > api.MaxText {
		return nil, api.ErrLong, api.MaxText
	}
	var l []api.Token
	for at := 0; ; {
		at += len(gapRule.FindString(s[at:]))
		rest := s[at:]
		word, number, sign := wordRule.FindString(rest), numberRule.FindString(rest), signRule.FindString(rest)
		switch {
		case rest == "":
			return append(l, tok(api.TokEnd, "", at)), api.OK, 0
		case len(word) > api.MaxName, len(number) > api.MaxDigit:
			return nil, api.ErrLong, at
		case badNumber.MatchString(rest), word+number+sign == "":
			return nil, api.ErrWord, at
		case slices.Contains(keywords, word):
			l = append(l, tok(api.TokWord, word, at))
		case word != "":
			l = append(l, tok(api.TokName, word, at))
		case number != "":
			l = append(l, tok(api.TokNum, number, at))
		default:
			l = append(l, tok(api.TokSign, sign, at))
		}
		at += len(word + number + sign)
	}
}

// wantModel checks that Lex and the model return the same.
func wantModel(t *testing.T, s string) {
	t.Helper()
	l, e, at := lex.Lex(s)
	if want, is, offset := model(s); !slices.Equal(l, want) || e != is || at != offset {
		t.Fatalf("11.1: Lex(%q) = %v %d %d; want %v %d %d", s, l, e, at, want, is, offset)
	}
}

// 11.1: all sources of up to five of some bytes, against the model.
func TestAllShort(t *testing.T) {
	const bytes = "if_01=<->;.# \n\rA"
	var all func(s string, more int)
	all = func(s string, more int) {
		wantModel(t, s)
		if more == 0 {
			return
		}
		for i := range len(bytes) {
			all(s+bytes[i:i+1], more-1)
		}
	}
	length := 5
	if testing.Short() {
		length = 3
	}
	all("", length)
}

// 11.1: long rows of parts, most of them right, and rows of any bytes, against the model.
func TestLong(t *testing.T) {
	parts := slices.Concat(keywords, signs, keywords, signs, []string{
		" ", "\n", "\t", "\r", "\r\n", "# call 1a?\n", "#", "a", "z9_", "abcdefghij0123456789", "0", "7", "100", "999999999",
	})
	wrong := []string{"01", "1a", "_", "A", "?", "\xff", "abcdefghij01234567890", "1000000000", "0000000000"}
	r := rand.New(rand.NewSource(11))
	for range 20000 {
		var s strings.Builder
		for range r.Intn(60) {
			if r.Intn(100) == 0 {
				s.WriteString(wrong[r.Intn(len(wrong))])
			} else {
				s.WriteString(parts[r.Intn(len(parts))])
			}
			if r.Intn(4) > 0 {
				s.WriteByte(" \n"[r.Intn(2)])
			}
		}
		wantModel(t, s.String())
	}
	for range 20000 {
		b := make([]byte, r.Intn(12))
		for i := range b {
			b[i] = byte(r.Intn(256))
		}
		wantModel(t, string(b))
	}
	for range 20 {
		var s strings.Builder
		for s.Len() < api.MaxText-api.MaxName {
			fmt.Fprint(&s, parts[r.Intn(len(parts))], " ")
		}
		wantModel(t, s.String())
	}
}

// R1, R3: the same source has the same tokens, whatever is done to a result and to what lies behind it.
func TestResults(t *testing.T) {
	const s = "module m; # c\nvar x : low = 10 ;"
	first, _, _ := lex.Lex(s)
	second, _, _ := lex.Lex(s)
	want := slices.Clone(second)
	for i := range first {
		first[i] = tok(-1, "spoilt", -1)
	}
	first = append(first[:1], tok(-1, "spoilt", -1))
	for i := range first[:cap(first)] {
		first[:cap(first)][i] = tok(-1, "spoilt", -1)
	}
	third, e, at := lex.Lex(s)
	if !slices.Equal(second, want) || !slices.Equal(third, want) || e != api.OK || at != 0 {
		t.Errorf("R3: after writing into a result: %v and %v %d %d; want %v", second, third, e, at, want)
	}
	lex.Lex("? " + s)
	wantTokens(t, s, want[:len(want)-1]...)
}
