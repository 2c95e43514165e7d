package label_test

import (
	"fmt"
	"math/rand"
	"slices"
	"strconv"

	"aquifer/api"
)

// short returns how something is shown, or the beginning of that.
func short(v any) string { return fmt.Sprintf("%.300s", fmt.Sprintf("%+v", v)) }

// pairs returns a list of the names and labels that stand in turn.
func pairs(texts ...string) []api.Param {
	var l []api.Param
	for p := range slices.Chunk(texts, 2) {
		l = append(l, api.Param{Name: p[0], Label: p[1]})
	}
	return l
}

// chain returns the pairs of names of which each is at most the next one.
func chain(names ...string) []api.Param {
	var l []api.Param
	for i := 1; i < len(names); i++ {
		l = append(l, api.Param{Name: names[i-1], Label: names[i]})
	}
	return l
}

// numbered returns that many names.
func numbered(n int) []string {
	var names []string
	for i := range n {
		names = append(names, "n"+strconv.Itoa(i))
	}
	return names
}

// isLeast says whether c is in a set and at most all of it.
func isLeast(le [][]bool, c int, in func(int) bool) bool {
	if c < 0 || c >= len(le) || !in(c) {
		return false
	}
	for d := range le {
		if in(d) && !le[c][d] {
			return false
		}
	}
	return true
}

// isGreatest says whether c is in a set and all of it is at most c.
func isGreatest(le [][]bool, c int, in func(int) bool) bool {
	if c < 0 || c >= len(le) || !in(c) {
		return false
	}
	for d := range le {
		if in(d) && !le[d][c] {
			return false
		}
	}
	return true
}

func all(int) bool { return true }

// above are the labels that both a and b are at most, and below those that are at most both.
func above(le [][]bool, a, b int) func(int) bool {
	return func(c int) bool { return le[a][c] && le[b][c] }
}

func below(le [][]bool, a, b int) func(int) bool {
	return func(c int) bool { return le[c][a] && le[c][b] }
}

// isOrder says whether a table is reflexive and transitive, and no two different labels are at most each other.
func isOrder(le [][]bool) bool {
	for a := range le {
		for b := range le {
			if a == b && !le[a][a] || a != b && le[a][b] && le[b][a] {
				return false
			}
			for c := range le {
				if le[a][b] && le[b][c] && !le[a][c] {
					return false
				}
			}
		}
	}
	return true
}

// right says of a lattice what 14.2 asks of Right, sentence by sentence.
func right(t api.Lattice) bool {
	n := len(t.Names)
	if n < 1 || n > 12 || len(t.Le) != n || len(t.Join) != n || len(t.Meet) != n {
		return false
	}
	for a := range n {
		if len(t.Le[a]) != n || len(t.Join[a]) != n || len(t.Meet[a]) != n || a > 0 && t.Names[a] <= t.Names[a-1] {
			return false
		}
	}
	for a := range n {
		for b := range n {
			if !isLeast(t.Le, t.Join[a][b], above(t.Le, a, b)) || !isGreatest(t.Le, t.Meet[a][b], below(t.Le, a, b)) {
				return false
			}
		}
	}
	return isOrder(t.Le) && isLeast(t.Le, t.Low, all) && isGreatest(t.Le, t.High, all)
}

// found returns the first label that is one, and 0 if there is none.
func found(le [][]bool, is func([][]bool, int, func(int) bool) bool, in func(int) bool) int {
	for c := range le {
		if is(le, c, in) {
			return c
		}
	}
	return 0
}

// filled returns a lattice with this table and what the table determines; what it does not is 0.
func filled(names []string, le [][]bool) api.Lattice {
	t := api.Lattice{Names: names, Le: le, Low: found(le, isLeast, all), High: found(le, isGreatest, all)}
	for a := range le {
		var joins, meets []int
		for b := range le {
			joins = append(joins, found(le, isLeast, above(le, a, b)))
			meets = append(meets, found(le, isGreatest, below(le, a, b)))
		}
		t.Join, t.Meet = append(t.Join, joins), append(t.Meet, meets)
	}
	return t
}

// made is what 14.1 asks of Make.
func made(l []api.Param) (api.Lattice, api.Errno) {
	over := map[string][]string{}
	for _, p := range l {
		over[p.Name] = append(over[p.Name], p.Name)
		if p.Label != "" {
			over[p.Name] = append(over[p.Name], p.Label)
			over[p.Label] = append(over[p.Label], p.Label)
		}
	}
	var names []string
	for name := range over {
		names = append(names, name)
	}
	slices.Sort(names)
	switch {
	case len(names) == 0:
		return api.Lattice{}, api.ErrOrder
	case len(names) > 12:
		return api.Lattice{}, api.ErrMany
	}
	le := table(len(names), func(int, int) bool { return false })
	for a, from := range names {
		reach(names, over, from, le[a])
	}
	t := filled(names, le)
	if !right(t) {
		return api.Lattice{}, api.ErrOrder
	}
	return t, api.OK
}

// reach marks all names that are over a name, at any distance.
func reach(names []string, over map[string][]string, from string, mark []bool) {
	for _, to := range over[from] {
		if at := slices.Index(names, to); !mark[at] {
			mark[at] = true
			reach(names, over, to, mark)
		}
	}
}

// table returns the table of a relation.
func table(n int, is func(a, b int) bool) [][]bool {
	le := make([][]bool, n)
	for a := range le {
		for b := range n {
			le[a] = append(le[a], is(a, b))
		}
	}
	return le
}

// copied returns a copy that shares nothing.
func copied(t api.Lattice) api.Lattice {
	t.Names = slices.Clone(t.Names)
	t.Le, t.Join, t.Meet = slices.Clone(t.Le), slices.Clone(t.Join), slices.Clone(t.Meet)
	for a := range t.Le {
		t.Le[a] = slices.Clone(t.Le[a])
	}
	for _, rows := range [][][]int{t.Join, t.Meet} {
		for a := range rows {
			rows[a] = slices.Clone(rows[a])
		}
	}
	return t
}

// family is a set of sets, each the bits of a number, that with any two of them has their intersection, and one that
// holds all others. Such sets are a lattice by inclusion, with the intersection as the Meet.
type family []int

// someFamily returns a family of at most 12 sets.
func someFamily(r *rand.Rand) family {
	width := 1 + r.Intn(5)
	full := 1<<width - 1
	f := family{full}
	for range r.Intn(16) {
		g := slices.Clone(f)
		add := r.Intn(full + 1)
		for _, s := range f {
			g = append(g, s&add)
		}
		slices.Sort(g)
		if g = slices.Compact(g); len(g) <= 12 {
			f = g
		}
	}
	r.Shuffle(len(f), func(i, j int) { f[i], f[j] = f[j], f[i] })
	return f
}

// lattice returns what a family says, each set with the name of its place.
func (f family) lattice(names []string) api.Lattice {
	t := api.Lattice{Names: names}
	all, none := 0, -1
	for _, s := range f {
		all, none = all|s, none&s
	}
	t.Low, t.High = slices.Index(f, none), slices.Index(f, all)
	for _, s := range f {
		var le []bool
		var joins, meets []int
		for _, u := range f {
			join := all
			for _, v := range f {
				if (s|u)&^v == 0 {
					join &= v
				}
			}
			le = append(le, s&^u == 0)
			joins = append(joins, slices.Index(f, join))
			meets = append(meets, slices.Index(f, s&u))
		}
		t.Le, t.Join, t.Meet = append(t.Le, le), append(t.Join, joins), append(t.Meet, meets)
	}
	return t
}

// list returns pairs that say no more than the inclusions of a family, but enough for all of them to follow.
func (f family) list(r *rand.Rand, names []string) []api.Param {
	var l []api.Param
	for i, s := range f {
		if len(f) == 1 || r.Intn(4) == 0 {
			l = append(l, api.Param{Name: names[i], At: r.Intn(99)})
		}
		for j, u := range f {
			next := s != u && s&^u == 0 && !slices.ContainsFunc(f, func(v int) bool {
				return v != s && v != u && s&^v == 0 && v&^u == 0
			})
			for range r.Intn(3) {
				if s&^u == 0 && r.Intn(3) == 0 {
					l = append(l, api.Param{Name: names[i], Label: names[j], At: r.Intn(99)})
				}
			}
			if next {
				l = append(l, api.Param{Name: names[i], Label: names[j], At: r.Intn(99)})
			}
		}
	}
	r.Shuffle(len(l), func(i, j int) { l[i], l[j] = l[j], l[i] })
	return l
}

// someNames returns ascending names of letters from a to c.
func someNames(r *rand.Rand, n int) []string {
	names := map[string]int{}
	for len(names) < n {
		b := make([]byte, 1+r.Intn(4))
		for i := range b {
			b[i] = byte('a' + r.Intn(3))
		}
		names[string(b)]++
	}
	var l []string
	for name := range names {
		l = append(l, name)
	}
	slices.Sort(l)
	return l
}
