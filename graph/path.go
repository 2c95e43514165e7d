package graph

import "slices"

// step is a node of a path, and the edges from it that were not followed yet.
type step struct {
	at   int
	rest []int
}

// follow goes along all paths from a node, but to none that was seen. It appends each node that it comes to, the first
// one too, to a list when all paths from there were followed.
func follow(to [][]int, from int, seen []bool, list []int) []int {
	if seen[from] {
		return list
	}
	seen[from] = true
	path := []step{{from, to[from]}}
next:
	for len(path) > 0 {
		end := &path[len(path)-1]
		for i, at := range end.rest {
			if !seen[at] {
				seen[at] = true
				end.rest = end.rest[i+1:]
				path = append(path, step{at, to[at]})
				continue next
			}
		}
		list = append(list, end.at)
		path = path[:len(path)-1]
	}
	return list
}

// turned returns the graph with all edges turned round.
func turned(to [][]int) [][]int {
	back := make([][]int, len(to))
	for from, l := range to {
		for _, at := range l {
			back[at] = append(back[at], from)
		}
	}
	return back
}

// groups returns the nodes in groups: two nodes are in the same one if paths lead from each of them to the other.
func (w web) groups() [][]int {
	seen := make([]bool, len(w.to))
	var list []int
	for at := range w.to {
		list = follow(w.to, at, seen, list)
	}
	// A node from which a path leads to the last one of the list, but none back, would have been appended behind it, or
	// another one of its group. So, of the nodes that are in no group yet, those from which paths lead to the last one are
	// its group.
	clear(seen)
	back := turned(w.to)
	var all [][]int
	for _, at := range slices.Backward(list) {
		if g := follow(back, at, seen, nil); len(g) > 0 {
			all = append(all, g)
		}
	}
	return all
}
