package face

import (
	"cmp"
	"slices"
)

// Union returns the strings of both lists in ascending order without duplicates.
func Union(a, b []string) []string {
	return merge(set(a), set(b))
}

// Within reports whether each element of a is an element of b.
func Within(a, b []string) bool {
	all := set(b)
	return !slices.ContainsFunc(a, func(s string) bool { return !has(all, s) })
}

// set returns the elements of a list as a set: in ascending order without duplicates.
func set[T cmp.Ordered](l []T) []T {
	all := slices.Clone(l)
	slices.Sort(all)
	return slices.Compact(all)
}

func has[T cmp.Ordered](all []T, x T) bool {
	_, found := slices.BinarySearch(all, x)
	return found
}

// merge returns the elements of two sets as one set in new memory.
func merge[T cmp.Ordered](a, b []T) []T {
	all := make([]T, 0, len(a)+len(b))
	for len(a) > 0 && len(b) > 0 {
		switch order := cmp.Compare(a[0], b[0]); {
		case order < 0:
			all, a = append(all, a[0]), a[1:]
		case order > 0:
			all, b = append(all, b[0]), b[1:]
		default:
			a = a[1:] // that of b is still to come
		}
	}
	return append(append(all, a...), b...)
}
