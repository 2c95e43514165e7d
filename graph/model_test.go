package graph_test

import (
	"fmt"
	"math/rand"
	"slices"
	"testing"

	"aquifer/api"
	"aquifer/graph"
)

func node(name string, to ...string) graph.Node { return graph.Node{Name: name, To: to} }

func nodes(l ...graph.Node) []graph.Node { return l }

// short returns how something is shown, or the beginning of that.
func short(v any) string { return fmt.Sprintf("%.500s", fmt.Sprintf("%q", v)) }

// copied returns a list with new memory.
func copied(l []graph.Node) []graph.Node {
	var all []graph.Node
	for _, n := range l {
		all = append(all, node(n.Name, slices.Clone(n.To)...))
	}
	return all
}

func same(a, b []graph.Node) bool {
	return slices.EqualFunc(a, b, func(x, y graph.Node) bool { return x.Name == y.Name && slices.Equal(x.To, y.To) })
}

// leads returns whether a path of at least one edge leads from a node to another, by the sentences of chapter 17.
func leads(l []graph.Node) func(a, b string) bool {
	place := map[string]int{}
	for _, n := range l {
		if _, ok := place[n.Name]; !ok {
			place[n.Name] = len(place)
		}
	}
	path := make([][]bool, len(place))
	for i := range path {
		path[i] = make([]bool, len(place))
	}
	for _, n := range l {
		for _, s := range n.To {
			if to, ok := place[s]; ok {
				path[place[n.Name]][to] = true
			}
		}
	}
	for via := range path {
		for a := range path {
			for b := range path {
				path[a][b] = path[a][b] || path[a][via] && path[via][b]
			}
		}
	}
	return func(a, b string) bool {
		i, ok := place[a]
		j, there := place[b]
		return ok && there && path[i][j]
	}
}

// told returns what Order returns, by the sentences of chapter 17.
func told(l []graph.Node) (order []string, circle []string, e api.Errno) {
	var names []string
	for _, n := range l {
		if slices.Contains(names, n.Name) {
			return nil, nil, api.ErrArg
		}
		names = append(names, n.Name)
	}
	path := leads(l)
	slices.Sort(names)
	var rest []string
	for _, s := range names {
		if path(s, s) {
			circle = append(circle, s)
		} else {
			rest = append(rest, s)
		}
	}
	for len(rest) > 0 {
		next := slices.IndexFunc(rest, func(s string) bool {
			return !slices.ContainsFunc(rest, func(to string) bool { return path(s, to) })
		})
		order = append(order, rest[next])
		rest = slices.Delete(rest, next, next+1)
	}
	return order, circle, api.OK
}

// wantOrder checks what Order returns of a list, and that it leaves the list as it is.
func wantOrder(t *testing.T, l []graph.Node, order, circle []string, e api.Errno) {
	t.Helper()
	before := copied(l)
	gotOrder, gotCircle, got := graph.Order(l)
	if !slices.Equal(gotOrder, order) || !slices.Equal(gotCircle, circle) || got != e {
		t.Errorf("17.1: Order(%s) = %s %s %d; want %s %s %d", short(l), short(gotOrder), short(gotCircle), got, short(order), short(circle), e)
	}
	if !same(l, before) {
		t.Errorf("R3: Order has changed %s to %s", short(before), short(l))
	}
}

// wantBack checks what Back returns of a list and any two of some names, and that it leaves the list as it is.
func wantBack(t *testing.T, l []graph.Node, names ...string) {
	t.Helper()
	before := copied(l)
	path := leads(l)
	for _, a := range names {
		for _, b := range names {
			if want := path(a, b); graph.Back(l, a, b) != want {
				t.Errorf("17.1: Back(%s, %q, %q) is not %v", short(l), a, b, want)
			}
		}
	}
	if !same(l, before) {
		t.Errorf("R3: Back has changed %s to %s", short(before), short(l))
	}
}

// wantLike checks Order and Back against the model.
func wantLike(t *testing.T, l []graph.Node) {
	t.Helper()
	order, circle, e := told(l)
	wantOrder(t, l, order, circle, e)
	names := []string{"none"}
	for _, n := range l {
		names = append(names, n.Name)
	}
	wantBack(t, l, names...)
}

// graphs calls with each graph of some nodes.
func graphs(f func(l []graph.Node), names ...string) {
	n := len(names)
	for edges := range 1 << (n * n) {
		l := make([]graph.Node, n)
		for i, s := range names {
			l[i].Name = s
			for j, to := range names {
				if edges>>(i*n+j)&1 == 1 {
					l[i].To = append(l[i].To, to)
				}
			}
		}
		f(l)
	}
}

// 17.1: all graphs of up to three nodes, and each list of their names.
func TestAllSmall(t *testing.T) {
	for _, names := range [][]string{{}, {"a"}, {""}, {"a", "b"}, {"b", "a"}, {"b", "a", "c"}, {"c", "b", "a"}, {"a", "ab", ""}, {"é", "\xff", "z"}} {
		graphs(func(l []graph.Node) { wantLike(t, l) }, names...)
	}
}

// 17.1: all graphs of four nodes.
func TestAllFour(t *testing.T) {
	graphs(func(l []graph.Node) { wantLike(t, l) }, "c", "a", "d", "b")
}

// 17.1: all lists of up to three nodes of three names, some of them of the same one, with edges to any of these names.
func TestAllSameNames(t *testing.T) {
	names := []string{"b", "c", "a"}
	var all []graph.Node
	for _, s := range names {
		for edges := range 1 << len(names) {
			n := node(s)
			for i, to := range names {
				if edges>>i&1 == 1 {
					n.To = append(n.To, to)
				}
			}
			all = append(all, n)
		}
	}
	for _, x := range all {
		for _, y := range all {
			wantLike(t, nodes(x, y))
			for _, z := range all {
				wantLike(t, nodes(x, y, z))
			}
		}
	}
}

// some returns a random list of up to n nodes. Most edges go down from rank to rank, or stay within one.
func some(r *rand.Rand, n int) []graph.Node {
	perm := r.Perm(3 * n)[:r.Intn(n+1)]
	names := make([]string, len(perm))
	for i, at := range perm {
		names[i] = fmt.Sprint(at)
	}
	width, most := 1+r.Intn(4), 1+r.Intn(6)
	var l []graph.Node
	for i, s := range names {
		n := node(s)
		for range r.Intn(most) {
			j := r.Intn(len(names))
			if i/width >= j/width && r.Intn(3) > 0 || r.Intn(200) == 0 {
				n.To = append(n.To, names[j])
			}
		}
		for r.Intn(8) == 0 {
			n.To = append(n.To, s+"0")
		}
		l = append(l, n)
	}
	r.Shuffle(len(l), func(a, b int) { l[a], l[b] = l[b], l[a] })
	return l
}

// through tells whether some node of order leads to another one only through circles.
func through(l []graph.Node, order, circle []string) bool {
	var rest []graph.Node
	for _, n := range l {
		if !slices.Contains(circle, n.Name) {
			rest = append(rest, n)
		}
	}
	all, direct := leads(l), leads(rest)
	for _, a := range order {
		for _, b := range order {
			if all(a, b) && !direct(a, b) {
				return true
			}
		}
	}
	return false
}

// 17.1: random lists, seldom with a name that is there twice.
func TestRandom(t *testing.T) {
	r := rand.New(rand.NewSource(17))
	both, paths, errors := 0, 0, 0
	for i := range 4000 {
		l := some(r, 2+i%24)
		if len(l) > 1 && r.Intn(20) == 0 {
			l[r.Intn(len(l))].Name = l[0].Name
		}
		wantLike(t, l)
		order, circle, e := graph.Order(l)
		if len(order) > 2 && len(circle) > 1 {
			both++
		}
		if through(l, order, circle) {
			paths++
		}
		if e == api.ErrArg {
			errors++
		}
	}
	if both < 400 || paths < 150 || errors < 100 {
		t.Errorf("too few lists of a kind: %d with both, %d with paths through circles, %d with an error", both, paths, errors)
	}
}
