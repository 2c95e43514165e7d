package parse

import "aquifer/api"

func (p *parser) block() []api.Stmt {
	p.open("{")
	var l []api.Stmt
	for !p.accept("}") {
		l = append(l, p.stmt())
	}
	p.shut()
	return l
}

func (p *parser) stmt() api.Stmt {
	s := api.Stmt{At: p.peek().At}
	switch {
	case p.accept("if"):
		s.Kind = api.SIf
		s.E = p.expr()
		s.Body = p.block()
		if p.accept("else") {
			s.Else = p.block()
		}
	case p.accept("while"):
		s.Kind = api.SWhile
		s.E = p.expr()
		s.Body = p.block()
	default:
		p.simple(&s)
		p.expect(";")
	}
	return s
}

// simple fills in a statement without a block, up to its semicolon.
func (p *parser) simple(s *api.Stmt) {
	switch {
	case p.accept("let"):
		q := p.param()
		s.Kind, s.Name, s.Label = api.SLet, q.Name, q.Label
		s.E = p.value()
	case p.accept("result"):
		s.Kind = api.SResult
		s.E = p.value()
	case p.accept("call"):
		s.Kind = api.SCall
		p.call(s)
	case p.accept("emit"):
		s.Kind = api.SEmit
		s.Name = p.name()
	case p.accept("skip"):
		s.Kind = api.SSkip
	default:
		s.Kind = api.SSet
		s.Mod, s.Name = p.qname()
		s.E = p.value()
	}
}

func (p *parser) value() []api.Node {
	p.expect("=")
	return p.expr()
}

// call fills in a call behind its keyword; only what follows the first name tells whether it is the target.
func (p *parser) call(s *api.Stmt) {
	mod, name := p.qname()
	if p.accept("=") {
		s.Has, s.Mod, s.Name = true, mod, name
		mod, name = p.qname()
	}
	s.ToMod, s.To = mod, name
	p.expect("(")
	s.Args = list(p, ")", p.expr)
}
