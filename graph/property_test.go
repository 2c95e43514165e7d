package graph_test

import (
	"fmt"
	"math/rand"
	"slices"
	"strings"
	"testing"

	"aquifer/api"
	"aquifer/graph"
)

// wantOnce checks that each node is in exactly one of the two lists, and each of these once.
func wantOnce(t *testing.T, l []graph.Node, order, circle []string) {
	t.Helper()
	var names []string
	for _, n := range l {
		names = append(names, n.Name)
	}
	slices.Sort(names)
	all := slices.Concat(order, circle)
	slices.Sort(all)
	if !slices.Equal(all, names) {
		t.Errorf("17.2: Order(%s) = %s %s", short(l), short(order), short(circle))
	}
}

// mixed returns a list with the same edges: its nodes and each To in another order, with some names there several times,
// and with others that are not those of nodes.
func mixed(r *rand.Rand, l []graph.Node) []graph.Node {
	l = copied(l)
	for i := range l {
		to := l[i].To
		for _, s := range slices.Clone(to) {
			for r.Intn(3) == 0 {
				to = append(to, s)
			}
		}
		for r.Intn(3) == 0 {
			to = append(to, "none")
		}
		r.Shuffle(len(to), func(a, b int) { to[a], to[b] = to[b], to[a] })
		l[i].To = to
	}
	r.Shuffle(len(l), func(a, b int) { l[a], l[b] = l[b], l[a] })
	return l
}

// 17.2: the lists have each node once, and depend on no order.
func TestNoOrder(t *testing.T) {
	r := rand.New(rand.NewSource(2))
	for i := range 1500 {
		l := some(r, 2+i%40)
		order, circle, e := graph.Order(l)
		if e != api.OK {
			t.Fatalf("17.1: Order(%s) = %d", short(l), e)
		}
		wantOnce(t, l, order, circle)
		for range 4 {
			wantOrder(t, mixed(r, l), order, circle, api.OK)
		}
	}
}

// 17.2: all orders of the nodes of one graph.
func TestAllOrders(t *testing.T) {
	l := written("a>x c; x>y; y>x d; d; c>d e; e")
	order, circle := list("d e c a"), list("x y")
	var mix func(n int)
	mix = func(n int) {
		if n == len(l) {
			wantOrder(t, l, order, circle, api.OK)
		}
		for i := n; i < len(l); i++ {
			l[n], l[i] = l[i], l[n]
			mix(n + 1)
			l[n], l[i] = l[i], l[n]
		}
	}
	mix(0)
}

// R3: writing into a result, up to its capacity, changes no other one, nor an argument; and no result holds an argument.
func TestNewMemory(t *testing.T) {
	l := written("a>b x; b>c; c; x>y; y>x; z>z; d>a")
	kept := copied(l)
	order, circle, _ := graph.Order(l)
	again, round, _ := graph.Order(l)
	clear(order[:cap(order)])
	if !slices.Equal(circle, list("x y z")) || !slices.Equal(again, list("c b a d")) || !slices.Equal(round, list("x y z")) || !same(l, kept) {
		t.Errorf("R3: %q, %q, %q or %v is changed", circle, again, round, l)
	}
	clear(circle[:cap(circle)])
	for _, n := range l {
		clear(n.To[:cap(n.To)])
	}
	clear(l)
	if !slices.Equal(again, list("c b a d")) || !slices.Equal(round, list("x y z")) {
		t.Errorf("R3: %q or %q is changed", again, round)
	}
}

// R3: an argument is left as it is also behind its end, and where its lists share memory.
func TestSpareCapacity(t *testing.T) {
	to := []string{"b", "none", "c", "a", "x"}
	all := nodes(node("c"), node("b"), node("a"), node("x", "x"))
	all[0].To, all[1].To, all[2].To = to[:0], to[2:3], to[:3]
	want := "[c b a] [] 0"
	for range 2 {
		if got := fmt.Sprint(graph.Order(all[:3])); got != want || !graph.Back(all[:3], "a", "c") || graph.Back(all[:3], "c", "b") {
			t.Errorf("17.1: %s; want %s", got, want)
		}
	}
	if !slices.Equal(to, list("b none c a x")) || all[3].Name != "x" || len(all[3].To) != 1 {
		t.Errorf("R3: %q or %v is changed", to, all)
	}
}

// R1: the same list gives the same answers, whatever was asked in between.
func TestAgain(t *testing.T) {
	r := rand.New(rand.NewSource(4))
	for range 200 {
		l := some(r, 30)
		first := fmt.Sprint(graph.Order(l))
		graph.Order(some(r, 30))
		graph.Back(l, "1", "1")
		if again := fmt.Sprint(graph.Order(l)); again != first {
			t.Fatalf("R1: %s; then %s", first, again)
		}
	}
}

const many = 200000

func name(i int) string { return fmt.Sprintf("%06d", i) }

// wantEnds checks lists that are long.
func wantEnds(t *testing.T, l []graph.Node, order, circle int, ends ...string) {
	t.Helper()
	o, c, e := graph.Order(l)
	if e != api.OK || len(o) != order || len(c) != circle {
		t.Fatalf("17.1: %d in order, %d in circle, %d", len(o), len(c), e)
	}
	if all := slices.Concat(o, c); all[0] != ends[0] || all[len(all)-1] != ends[1] {
		t.Errorf("17.1: from %s to %s", all[0], all[len(all)-1])
	}
}

// R1: long paths and circles, and nodes with many edges, end soon.
func TestMany(t *testing.T) {
	first, last := name(0), name(many-1)
	var up, down, ring, loops, alone, double []graph.Node
	star, fan := node("star"), nodes(node("fan"))
	for i := range many {
		s := name(i)
		up = append(up, node(s, name(i+1)))
		down = append(down, node(s, name(i-1)))
		ring = append(ring, node(s, name((i+1)%many)))
		loops = append(loops, node(s, s, name(i+1)))
		alone = append(alone, node(name(many-1-i)))
		double = append(double, node(s, "b", "b", "none"))
		star.To = append(star.To, s)
		fan = append(fan, node(s, "fan"))
	}
	wantEnds(t, up, many, 0, last, first)
	wantEnds(t, down, many, 0, first, last)
	wantEnds(t, ring, 0, many, first, last)
	wantEnds(t, loops, 0, many, first, last)
	wantEnds(t, alone, many, 0, first, last)
	wantEnds(t, append(alone, star), many+1, 0, first, "star")
	wantEnds(t, fan, many+1, 0, "fan", last)
	wantEnds(t, append(double, node("b", "a"), node("a", "b")), many, 2, first, "b")
	wantEnds(t, append(loops, node("a", first), node(name(many))), 2, many, name(many), last)
	for _, c := range []struct {
		l        []graph.Node
		from, to string
		want     bool
	}{
		{up, first, last, true}, {up, last, first, false}, {down, last, first, true}, {down, first, last, false}, {ring, last, last, true}, {up, first, first, false},
		{loops, first, last, true}, {loops, last, last, true}, {append(alone, star), "star", last, true}, {append(alone, star), last, "star", false},
		{fan, last, "fan", true}, {fan, "fan", "fan", false}, {append(double, node("b")), last, "b", true},
	} {
		if graph.Back(c.l, c.from, c.to) != c.want {
			t.Errorf("17.1: Back from %s to %s is not %v", c.from, c.to, c.want)
		}
	}
}

// R1: one node that stands there many times, names that are long, and a graph with all edges.
func TestHeavy(t *testing.T) {
	var twice, long, full []graph.Node
	tail := strings.Repeat("x", 1<<12)
	var all []string
	for i := range 700 {
		all = append(all, name(i))
	}
	for i := range many {
		twice = append(twice, node("a", "a", name(i)))
	}
	for i := range 700 {
		long = append(long, node(tail+name(i), tail+name(i+1), tail))
		full = append(full, node(name(i), all...))
	}
	if o, c, e := graph.Order(twice); e != api.ErrArg || len(o)+len(c) > 0 {
		t.Errorf("17.1: %d %d %d", len(o), len(c), e)
	}
	if !graph.Back(twice, "a", "a") || graph.Back(twice, "a", name(7)) {
		t.Error("17.1: Back of many nodes of a name")
	}
	wantEnds(t, long, 700, 0, tail+name(699), tail+name(0))
	wantEnds(t, full, 0, 700, name(0), name(699))
	for i := range full {
		full[i].To = full[i].To[:i]
	}
	wantEnds(t, full, 700, 0, name(0), name(699))
}
