package flow

import (
	"aquifer/api"
	"aquifer/label"
)

func (c *checker) let(s api.Stmt, pc int) {
	from := c.join(c.expr(s.E), pc)
	to := c.place(s.Label)
	if c.taken(s.Name) {
		c.tell(api.DTwice, s.Name, s.At)
	}
	if label.Place(c.lattice, s.Label) < 0 {
		c.tell(api.DLabel, s.Label, s.At)
	}
	c.flow(from, to, s.Name, s.At)
	c.locals = append(c.locals, local{s.Name, to})
}

func (c *checker) set(s api.Stmt, pc int) {
	c.assign(s, c.join(c.expr(s.E), pc))
}

func (c *checker) result(s api.Stmt, pc int) {
	from := c.join(c.expr(s.E), pc)
	if !c.caller.Has {
		c.tell(api.DArity, "result", s.At)
		return
	}
	c.flow(from, c.place(c.caller.Result), "result", s.At)
}

// branch checks what runs under a condition, also again and again.
func (c *checker) branch(s api.Stmt, pc int) {
	pc = c.join(c.expr(s.E), pc)
	c.block(s.Body, pc)
	c.block(s.Else, pc)
}

func (c *checker) emit(s api.Stmt, pc int) {
	c.effect(s.Name, s.At)
}

func (c *checker) skip(api.Stmt, int) {}

func (c *checker) call(s api.Stmt, pc int) {
	var args []int
	for _, a := range s.Args {
		args = append(args, c.expr(a))
	}
	m := c.modules[s.ToMod]
	if m.closed {
		return
	}
	p, ok := m.procs[s.To]
	if !ok {
		c.tell(api.DName, written(s.ToMod, s.To), s.At)
		return
	}
	c.called(s, p, args, pc)
}

// called checks a call of a procedure that there is. One that does not fit has no pairs of arguments and parameters, or
// no value for its target, so these are left out.
func (c *checker) called(s api.Stmt, p api.Sig, args []int, pc int) {
	fits := len(args) == len(p.Params) && (p.Has || !s.Has)
	if !fits {
		c.tell(api.DArity, written(s.ToMod, s.To), s.At)
	}
	if !c.atMost(pc, c.place(p.Pc)) {
		c.tell(api.DPc, written(s.ToMod, s.To), s.At)
	}
	if fits {
		c.arguments(args, p.Params, s.At)
	}
	for _, u := range p.Uses {
		c.effect(u, s.At)
	}
	if fits && s.Has {
		c.assign(s, c.join(c.place(p.Result), pc))
	}
}
