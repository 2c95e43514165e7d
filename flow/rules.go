package flow

import (
	"strconv"

	"aquifer/api"
)

// expr returns the label of an expression, that of its last node.
func (c *checker) expr(l []api.Node) int {
	labels := make([]int, len(l))
	for i, n := range l {
		if n.Kind == api.NVar {
			labels[i], _ = c.name(n.Mod, n.Name, n.At)
		} else {
			labels[i] = c.join(c.operand(labels[:i], n.A), c.operand(labels[:i], n.B))
		}
	}
	return c.operand(labels, len(l)-1)
}

// operand returns the label of a node by its place, and Low if there is no such node: to join it changes nothing.
func (c *checker) operand(labels []int, at int) int {
	if at < 0 || at >= len(labels) {
		return c.lattice.Low
	}
	return labels[at]
}

// assign checks that a value may go to the target of a statement.
func (c *checker) assign(s api.Stmt, from int) {
	if to, ok := c.name(s.Mod, s.Name, s.At); ok {
		c.flow(from, to, written(s.Mod, s.Name), s.At)
	}
}

func (c *checker) flow(from, to int, target string, at int) {
	if !c.atMost(from, to) {
		c.tell(api.DFlow, target, at)
	}
}

func (c *checker) arguments(args []int, params []string, at int) {
	for i, from := range args {
		if !c.atMost(from, c.place(params[i])) {
			c.tell(api.DArg, strconv.Itoa(i), at)
		}
	}
}

// effect checks that the procedure says that it has an effect.
func (c *checker) effect(name string, at int) {
	if _, ok := c.uses[name]; !ok {
		c.tell(api.DEffect, name, at)
	}
}
