package label

import (
	"slices"

	"aquifer/api"
)

// order returns the table of the pairs of a list, without those that only follow from them.
func order(names []string, l []api.Param) [][]bool {
	le := make([][]bool, len(names))
	for a := range le {
		le[a] = make([]bool, len(names))
	}
	for _, p := range l {
		if p.Label != "" {
			le[slices.Index(names, p.Name)][slices.Index(names, p.Label)] = true
		}
	}
	return le
}

// lattice returns the lattice of an order, which it keeps and closes, and whether there is one.
func lattice(names []string, le [][]bool) (api.Lattice, bool) {
	closure(le)
	ge := turned(le)
	join, joins := bounds(le)
	meet, meets := bounds(ge)
	if !joins || !meets || circular(le) {
		return api.Lattice{}, false
	}
	all := func(int) bool { return true }
	return api.Lattice{Names: names, Le: le, Join: join, Meet: meet, Low: least(le, all), High: least(ge, all)}, true
}

// closure makes an order reflexive and transitive.
func closure(le [][]bool) {
	for a := range le {
		le[a][a] = true
	}
	// Each round at least doubles the length of the chains that count, so there are more rounds than it takes.
	for range le {
		for a := range le {
		pair:
			for b := range le {
				for via := range le {
					if le[a][via] && le[via][b] {
						le[a][b] = true
						continue pair
					}
				}
			}
		}
	}
}

// circular tells whether two different labels are at most each other.
func circular(le [][]bool) bool {
	for a := range le {
		for b := range a {
			if le[a][b] && le[b][a] {
				return true
			}
		}
	}
	return false
}

// bounds returns for any two labels the least one that both are at most, and whether all of these exist.
func bounds(le [][]bool) ([][]int, bool) {
	table := make([][]int, len(le))
	for a := range le {
		for b := range le {
			c := least(le, func(c int) bool { return le[a][c] && le[b][c] })
			if c < 0 {
				return nil, false
			}
			table[a] = append(table[a], c)
		}
	}
	return table, true
}

// least returns a label of a set that is at most all of the set, or -1.
func least(le [][]bool, in func(int) bool) int {
candidate:
	for a := range le {
		if !in(a) {
			continue
		}
		for b := range le {
			if in(b) && !le[a][b] {
				continue candidate
			}
		}
		return a
	}
	return -1
}

// turned returns the order from above: what was at most another one is now at least that.
func turned(le [][]bool) [][]bool {
	ge := make([][]bool, len(le))
	for b := range le {
		for a := range le {
			ge[b] = append(ge[b], le[a][b])
		}
	}
	return ge
}

func square(le [][]bool, n int) bool {
	return len(le) == n && !slices.ContainsFunc(le, func(row []bool) bool { return len(row) != n })
}

func copied(le [][]bool) [][]bool {
	rows := make([][]bool, len(le))
	for a, row := range le {
		rows[a] = slices.Clone(row)
	}
	return rows
}
