package parse

import (
	"strconv"

	"aquifer/api"
)

func (p *parser) module() api.Module {
	p.expect("module")
	t := p.expectKind(api.TokName)
	p.expect(";")
	m := api.Module{Name: t.Text, At: t.At}
	for p.accept("import") {
		t := p.expectKind(api.TokName)
		p.expect(";")
		m.Imports = append(m.Imports, api.Import{Name: t.Text, At: t.At})
	}
	for p.peek().Kind != api.TokEnd {
		if p.accept("var") {
			m.Vars = append(m.Vars, p.variable())
		} else {
			p.expect("proc")
			m.Procs = append(m.Procs, p.proc())
		}
	}
	return m
}

// variable is the rule var, without its keyword.
func (p *parser) variable() api.Var {
	q := p.param()
	p.expect("=")
	sign := 1
	if p.accept("-") {
		sign = -1
	}
	v := api.Var{Name: q.Name, Label: q.Label, Init: sign * p.number(), At: q.At}
	p.expect(";")
	return v
}

// proc is its rule without the keyword.
func (p *parser) proc() api.Proc {
	t := p.expectKind(api.TokName)
	c := api.Proc{Name: t.Text, At: t.At}
	p.expect("(")
	c.Params = list(p, ")", p.param)
	if p.accept("->") {
		c.Has, c.Result = true, p.name()
	}
	p.expect("pc")
	c.Pc = p.name()
	p.expect("uses")
	p.expect("{")
	c.Uses = list(p, "}", p.name)
	c.Body = p.block()
	return c
}

// param also begins a var and a let.
func (p *parser) param() api.Param {
	t := p.expectKind(api.TokName)
	p.expect(":")
	return api.Param{Name: t.Text, Label: p.name(), At: t.At}
}

// number cannot fail in Atoi, as a token has at most MaxDigit digits.
func (p *parser) number() int {
	n, _ := strconv.Atoi(p.expectKind(api.TokNum).Text)
	return n
}
