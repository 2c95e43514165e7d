package graph_test

import (
	"fmt"
	"slices"
	"strings"
	"testing"

	"aquifer/api"
	"aquifer/graph"
)

// 17.1: the examples of the chapter.
func TestExamples(t *testing.T) {
	l := nodes(node("a", "b"), node("b"))
	wantOrder(t, l, []string{"b", "a"}, nil, api.OK)
	if !graph.Back(l, "a", "b") || graph.Back(l, "a", "a") {
		t.Error("17.1: Back of a and b, or of a and a")
	}
}

// 17.1: the example of the README.
func TestReadme(t *testing.T) {
	l := nodes(node("a", "b", "x"), node("b", "none"), node("x", "y"), node("y", "x"))
	wantOrder(t, l, []string{"b", "a"}, []string{"x", "y"}, api.OK)
	if !graph.Back(l, "a", "y") || graph.Back(l, "a", "a") {
		t.Error("17.1: Back of a and y, or of a and a")
	}
}

// written returns the nodes of a text, each as its name, a sign > and the names that it leads to; - stands for no name.
func written(s string) []graph.Node {
	var l []graph.Node
	for _, part := range strings.Split(s, "; ") {
		name, to, _ := strings.Cut(part, ">")
		n := node(strings.ReplaceAll(name, "-", ""))
		for _, s := range strings.Fields(to) {
			n.To = append(n.To, strings.ReplaceAll(s, "-", ""))
		}
		l = append(l, n)
	}
	return l
}

func list(s string) []string {
	l := strings.Fields(s)
	for i := range l {
		l[i] = strings.ReplaceAll(l[i], "-", "")
	}
	return l
}

// 17.1: graphs that are written out.
func TestOrderWritten(t *testing.T) {
	for _, c := range []struct{ l, order, circle string }{
		// Without paths, by names, byte by byte.
		{"b; a; c", "a b c", ""},
		{"-; b; a", "- a b", ""},
		{"a; -", "- a", ""},
		{"b0; b; B; ab; a; \xff; é; z; 10; 9", "10 9 B a ab b b0 z é \xff", ""},
		// After all that paths lead to; of those that could come next, the least one.
		{"a>z; b; z", "b z a", ""},
		{"a>d; b>c; c; d", "c b d a", ""},
		{"a>b; b>c; c>d; d", "d c b a", ""},
		{"d>b c; b>a; c>a; a", "a b c d", ""},
		{"a>y; b>x; x; y; m", "m x b y a", ""},
		{"a>e; b>e; c>d; d; e", "d c e a b", ""},
		{"a>c b; b>c; c; d>a", "c b a d", ""},
		{"->a; a", "a -", ""},
		{"a>-; -", "- a", ""},
		// What is not the name of a node, and what is there several times.
		{"a>none b b; b>none", "b a", ""},
		{"a>-; b>ab; A>a", "a A b", ""},
		{"a>b b b; b>c c; c", "c b a", ""},
		{"a>none", "a", ""},
		// Circles.
		{"a>a", "", "a"},
		{"->-", "", "-"},
		{"a>b; b>a", "", "a b"},
		{"b>c; c>a; a>b", "", "a b c"},
		{"a>a; b>b; c", "c", "a b"},
		{"z>b; b>z; y>a; a>y", "", "a b y z"},
		{"x>y; y>x; p>q; q>p x", "", "p q x y"},
		{"a>b c; b>a; c>a", "", "a b c"},
		{"a>a a none; b>none", "b", "a"},
		{"x>y y; y>x x", "", "x y"},
		// What leads to a circle, or is led to by one, is in none.
		{"a>b; b>c; c>a; d>a; e", "d e", "a b c"},
		{"a>x; x>y; y>x b; b", "b a", "x y"},
		{"x>x a; a", "a", "x"},
		{"a>x; x>x", "a", "x"},
		{"a>x b; x>x; b>x", "b a", "x"},
		// Paths through circles count.
		{"a>x; x>x z; z; b", "b z a", "x"},
		{"a>x; x>x b; b; c", "b a c", "x"},
		{"a>x; x>y; y>x p; p>q; q>p b; b; c; z", "b a c z", "p q x y"},
		{"a>x; x>y; y>x z; z; b>a", "z a b", "x y"},
		{"a>p; p>q; q>p x; x>y; y>x z; z; m", "m z a", "p q x y"},
		{"a>x; b>x; x>x y; y>y z; z; c", "c z a b", "x y"},
		{"a>p q; p>p y; q>q z; y; z; b>p", "y b z a", "p q"},
		{"a>p; p>q r; q>p z; r>p y; y; z; b>y", "y b z a", "p q r"},
		{"c>x; x>x b; b>y; y>y a; a", "a b c", "x y"},
		// A circle in a circle, and two that have one node.
		{"a>b; b>c b; c>d; d>a c; e>d; f", "e f", "a b c d"},
		{"a>b c; b>a; c>a; d>c; -", "- d", "a b c"},
	} {
		wantOrder(t, written(c.l), list(c.order), list(c.circle), api.OK)
		wantLike(t, written(c.l))
	}
}

// 17.1: two nodes of the same name are an error, wherever they stand, and the lists are empty.
func TestOrderErrArg(t *testing.T) {
	for _, s := range []string{
		"a; a", "a; b; a", "b; a; a", "a; a; b", "-; -", "-; a; -", "a>b; a>c; b; c", "a>b; b>a; a>b", "a>a; a>a", "a>none; a>none", "x>x; b; a; c; b; y>y", "a; a; a",
	} {
		wantOrder(t, written(s), nil, nil, api.ErrArg)
		wantLike(t, written(s))
	}
	wantOrder(t, nodes(node("a\x00"), node("a"), node("A")), []string{"A", "a", "a\x00"}, nil, api.OK)
	var many []graph.Node
	for i := range 3000 {
		many = append(many, node(fmt.Sprint(i)))
	}
	for _, at := range []int{0, 1, 1499, 2998, 2999} {
		wantOrder(t, append(slices.Clone(many), node(many[at].Name, "x")), nil, nil, api.ErrArg)
	}
}

// 17.1: there may be no nodes.
func TestNone(t *testing.T) {
	wantOrder(t, nil, nil, nil, api.OK)
	wantOrder(t, []graph.Node{}, nil, nil, api.OK)
	wantOrder(t, make([]graph.Node, 1), []string{""}, nil, api.OK)
	wantBack(t, nil, "", "a")
	wantBack(t, make([]graph.Node, 1), "", "a")
}

// 17.1: Back follows paths of any length but none, through all nodes.
func TestBackWritten(t *testing.T) {
	for _, c := range []struct {
		l, from, to string
		want        bool
	}{
		{"a>b; b", "a", "b", true}, {"a>b; b", "b", "a", false}, {"a>b; b", "b", "b", false},
		{"a>b; b>c; c", "a", "c", true}, {"a>b; b>c; c", "c", "a", false}, {"a>b; b>c; c>d; d>e; e", "a", "e", true},
		{"a>a", "a", "a", true}, {"a", "a", "a", false}, {"a>b; b>a", "a", "a", true}, {"a>b; b>c; c>b", "a", "a", false}, {"a>b; b>c; c>b", "b", "b", true},
		{"a>b b; b>b", "a", "b", true}, {"a>a b; b", "a", "b", true}, {"a>a b; b>c; c", "a", "c", true}, {"a>b a; b>c; c", "b", "a", false},
		{"a>x; x>y; y>x b; b", "a", "b", true}, {"a>x b; x>x; b>c; c", "a", "c", true}, {"a>p q; p>r; q>r; r>s; s", "a", "s", true},
		// Only what is the name of a node is led to, from or through.
		{"a>none", "a", "none", false}, {"a>none", "none", "a", false}, {"a>none", "none", "none", false}, {"a>none; b", "a", "b", false}, {"a>a", "b", "b", false},
		{"a>-", "a", "", false}, {"a>-; -", "a", "", true}, {"->a; a", "", "a", true}, {"->-", "", "", true}, {"->a; a", "a", "", false},
		{"a>ab; ab>abc; abc", "a", "abc", true}, {"a>ab; abc", "a", "abc", false}, {"A>b; a; b", "a", "b", false}, {"\xff>\xfe; \xfe>\xff", "\xff", "\xff", true},
		// The edges of all nodes of a name count.
		{"a; a>b; b", "a", "b", true}, {"a>b; a; b", "a", "b", true}, {"a>b; a>c; b; c", "a", "b", true}, {"a>b; a>c; b; c", "a", "c", true},
		{"a>b; b; b>c; c", "a", "c", true}, {"a>b; b>x; b>c; c; c>a; x", "b", "b", true}, {"a>b; b; b; c; a>c; c>d; d", "a", "d", true}, {"a; a", "a", "a", false},
		{"a>b; b>c; a>c; c; c", "b", "a", false}, {"a>none; a>none", "a", "none", false},
	} {
		l := written(c.l)
		if graph.Back(l, c.from, c.to) != c.want {
			t.Errorf("17.1: Back of %s from %q to %q is not %v", c.l, c.from, c.to, c.want)
		}
		wantBack(t, l, "", "a", "b", "c", "none")
	}
}
