package parse

import "aquifer/api"

// expr begins the list of its nodes; the methods below add theirs to it, the root last, as a part knows its operands by
// their places in the whole list.
func (p *parser) expr() []api.Node {
	return p.comparison(nil)
}

// comparison is the rule expr, as a part of an expression as well.
func (p *parser) comparison(l []api.Node) []api.Node {
	l = p.sum(l)
	switch p.peek().Text {
	case "==":
		return p.binary(l, api.NEq, p.sum)
	case "<":
		return p.binary(l, api.NLt, p.sum)
	case "<=":
		return p.binary(l, api.NLe, p.sum)
	}
	return l
}

func (p *parser) sum(l []api.Node) []api.Node {
	l = p.term(l)
operators:
	for {
		switch p.peek().Text {
		case "+":
			l = p.binary(l, api.NAdd, p.term)
		case "-":
			l = p.binary(l, api.NSub, p.term)
		default:
			break operators
		}
	}
	return l
}

func (p *parser) term(l []api.Node) []api.Node {
	l = p.unary(l)
operators:
	for {
		switch p.peek().Text {
		case "*":
			l = p.binary(l, api.NMul, p.unary)
		case "/":
			l = p.binary(l, api.NDiv, p.unary)
		case "%":
			l = p.binary(l, api.NMod, p.unary)
		default:
			break operators
		}
	}
	return l
}

// binary adds the right operand and the operator, which is the next token, to the nodes that end with the left operand.
func (p *parser) binary(l []api.Node, kind int, operand func([]api.Node) []api.Node) []api.Node {
	n := api.Node{Kind: kind, A: len(l) - 1, At: p.take().At}
	l = operand(l)
	n.B = len(l) - 1
	return append(l, n)
}

func (p *parser) unary(l []api.Node) []api.Node {
	switch t := p.peek(); {
	case t.Kind == api.TokNum:
		return append(l, api.Node{Kind: api.NNum, Num: p.number(), A: -1, B: -1, At: t.At})
	case t.Kind == api.TokName:
		mod, name := p.qname()
		return append(l, api.Node{Kind: api.NVar, Mod: mod, Name: name, A: -1, B: -1, At: t.At})
	case t.Text == "-":
		return p.prefix(l, api.NNeg, t)
	case t.Text == "!":
		return p.prefix(l, api.NNot, t)
	}
	p.open("(")
	l = p.comparison(l)
	p.expect(")")
	p.shut()
	return l
}

// prefix adds the operand of the operator t, which is the next token, and that operator.
func (p *parser) prefix(l []api.Node, kind int, t api.Token) []api.Node {
	p.open(t.Text)
	l = p.unary(l)
	p.shut()
	return append(l, api.Node{Kind: kind, A: len(l) - 1, B: -1, At: t.At})
}
