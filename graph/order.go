package graph

import (
	"container/heap"
	"slices"
	"sort"
)

// parts returns for each node the number of its part, and how many parts are circles. These have the first numbers, and
// each of the other nodes is a part of its own, numbered as the names ascend.
func (w web) parts() (part []int, circles int) {
	const none = -1
	part = slices.Repeat([]int{none}, len(w.names))
	for _, g := range w.groups() {
		if len(g) == 1 && !slices.Contains(w.to[g[0]], g[0]) {
			continue
		}
		for _, at := range g {
			part[at] = circles
		}
		circles++
	}
	next := circles
	for at := range part {
		if part[at] == none {
			part[at] = next
			next++
		}
	}
	return part, circles
}

// between returns the edges that lead from one of n parts to another.
func (w web) between(part []int, n int) [][]int {
	to := make([][]int, n)
	for from, l := range w.to {
		for _, at := range l {
			if a, b := part[from], part[at]; a != b {
				to[a] = append(to[a], b)
			}
		}
	}
	return to
}

// sorted returns the parts, each after those to which edges lead from it, and of those that could come next always the
// first one. Circles are the first ones, so none of them keeps a node waiting that could come next in Order.
func sorted(to [][]int) []int {
	users := turned(to)
	waits := make([]int, len(to)) // for how many edges
	ready := &queue{}
	for p, l := range to {
		waits[p] = len(l)
		if waits[p] == 0 {
			heap.Push(ready, p)
		}
	}
	var list []int
	for ready.Len() > 0 {
		p := heap.Pop(ready).(int)
		list = append(list, p)
		for _, user := range users[p] {
			waits[user]--
			if waits[user] == 0 {
				heap.Push(ready, user)
			}
		}
	}
	return list
}

// queue is a heap of numbers, the least one first.
type queue struct{ sort.IntSlice }

func (q *queue) Push(x any) {
	q.IntSlice = append(q.IntSlice, x.(int))
}

func (q *queue) Pop() any {
	last := len(q.IntSlice) - 1
	x := q.IntSlice[last]
	q.IntSlice = q.IntSlice[:last]
	return x
}
