package show

import "aquifer/api"

func (p *printer) stmt(s api.Stmt) {
	switch s.Kind {
	case api.SIf:
		p.put("if")
		p.expr(s.E)
		p.block(s.Body)
		if len(s.Else) > 0 {
			p.put("else")
			p.block(s.Else)
		}
	case api.SWhile:
		p.put("while")
		p.expr(s.E)
		p.block(s.Body)
	default:
		p.simple(s)
		p.put(";")
	}
	if !sameStmt(untold(s), api.Stmt{}) {
		p.bad = true
	}
}

// simple puts a statement without a block, up to its semicolon.
func (p *printer) simple(s api.Stmt) {
	switch s.Kind {
	case api.SLet:
		p.put("let", p.name(s.Name), ":", p.name(s.Label))
		p.value(s.E)
	case api.SSet:
		p.qname(s.Mod, s.Name)
		p.value(s.E)
	case api.SResult:
		p.put("result")
		p.value(s.E)
	case api.SCall:
		p.call(s)
	case api.SEmit:
		p.put("emit", p.name(s.Name))
	case api.SSkip:
		p.put("skip")
	default:
		p.bad = true
	}
}

func (p *printer) value(l []api.Node) {
	p.put("=")
	p.expr(l)
}

func (p *printer) call(s api.Stmt) {
	p.put("call")
	if s.Has {
		p.qname(s.Mod, s.Name)
		p.put("=")
	}
	p.qname(s.ToMod, s.To)
	p.put("(")
	list(p, s.Args, p.expr)
	p.put(")")
}

// untold returns a statement without all that its text tells of it; after parsing, nothing else would be there.
func untold(s api.Stmt) api.Stmt {
	switch s.Kind {
	case api.SLet:
		s.Name, s.Label, s.E = "", "", nil
	case api.SSet:
		s.Mod, s.Name, s.E = "", "", nil
	case api.SResult:
		s.E = nil
	case api.SCall:
		if s.Has {
			s.Has, s.Mod, s.Name = false, "", ""
		}
		s.ToMod, s.To, s.Args = "", "", nil
	case api.SIf:
		s.E, s.Body, s.Else = nil, nil, nil
	case api.SWhile:
		s.E, s.Body = nil, nil
	case api.SEmit:
		s.Name = ""
	}
	s.Kind = 0
	return s
}
