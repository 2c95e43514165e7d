package show

import "aquifer/api"

// expr goes through an expression from its root only when it is known to be a tree, and not too deep.
func (p *printer) expr(l []api.Node) {
	n, ok := levels(l)
	if !ok || p.level+n > api.MaxNest {
		p.bad = true
		return
	}
	p.node(l, len(l)-1)
}

func (p *printer) node(l []api.Node, i int) {
	n := l[i]
	switch operands(n.Kind) {
	case 0:
		p.leaf(n)
	case 1:
		p.put(sign(n.Kind))
		p.operand(l, n.A)
	case 2:
		p.operand(l, n.A)
		p.put(sign(n.Kind))
		p.operand(l, n.B)
	}
}

func (p *printer) leaf(n api.Node) {
	if n.Kind == api.NNum {
		p.put(p.number(n.Num))
	} else {
		p.qname(n.Mod, n.Name)
	}
}

func (p *printer) operand(l []api.Node, i int) {
	if operands(l[i].Kind) == 0 {
		p.leaf(l[i])
		return
	}
	p.put("(")
	p.node(l, i)
	p.put(")")
}

// part is an operand that waits for its operator.
type part struct {
	root   int
	levels int // that its text opens
	inside int // the same within the operator's text, with its parentheses
}

// levels returns how many levels the text of an expression opens, and whether its nodes are such as the parser returns.
// It takes them one by one, because the operators may stand in one another more often than calls can.
func levels(l []api.Node) (int, bool) {
	var waiting []part
	for i, n := range l {
		k := operands(n.Kind)
		rest := len(waiting) - k
		if k < 0 || rest < 0 || !fits(n, waiting[rest:]) {
			return 0, false
		}
		waiting = append(waiting[:rest], join(i, waiting[rest:]))
	}
	if len(waiting) != 1 {
		return 0, false
	}
	return waiting[0].levels, true
}

// fits tells whether a node has these operands, and no field that nodes of its kind do not use.
func fits(n api.Node, of []part) bool {
	want := api.Node{Kind: n.Kind, A: -1, B: -1, At: n.At}
	switch len(of) {
	case 0:
		if n.Kind == api.NNum {
			want.Num = n.Num
		} else {
			want.Mod, want.Name = n.Mod, n.Name
		}
	case 1:
		want.A = of[0].root
	case 2:
		want.A, want.B = of[0].root, of[1].root
	}
	return n == want
}

func join(root int, of []part) part {
	p := part{root: root}
	if len(of) == 0 {
		return p
	}
	for _, o := range of {
		p.levels = max(p.levels, o.inside)
	}
	if len(of) == 1 {
		p.levels++ // the sign of a unary opens one too
	}
	p.inside = p.levels + 1
	return p
}

// operands returns how many operands a kind of nodes has, and -1 if there is no such kind.
func operands(kind int) int {
	switch {
	case kind == api.NNum, kind == api.NVar:
		return 0
	case kind == api.NNeg, kind == api.NNot:
		return 1
	case sign(kind) != "":
		return 2
	}
	return -1
}

// sign returns the sign of an operator, and nothing for another kind of nodes.
func sign(kind int) string {
	switch kind {
	case api.NNeg, api.NSub:
		return "-"
	case api.NNot:
		return "!"
	case api.NAdd:
		return "+"
	case api.NMul:
		return "*"
	case api.NDiv:
		return "/"
	case api.NMod:
		return "%"
	case api.NEq:
		return "=="
	case api.NLt:
		return "<"
	case api.NLe:
		return "<="
	}
	return ""
}
