package index

import "slices"

// list holds entries whose keys differ. Their order is that in which they came, and means nothing.
type list[K comparable, V any] []entry[K, V]

// entry is a key with its value.
type entry[K comparable, V any] struct {
	key   K
	value V
}

// put sets the value of a key.
func (l *list[K, V]) put(key K, value V) {
	if at := l.find(key); at >= 0 {
		(*l)[at].value = value
		return
	}
	*l = append(*l, entry[K, V]{key: key, value: value})
}

// get returns the value of a key, and whether there is one.
func (l *list[K, V]) get(key K) (value V, found bool) {
	at := l.find(key)
	if at < 0 {
		return value, false
	}
	return (*l)[at].value, true
}

// del deletes the entry of a key, and reports whether there was one.
func (l *list[K, V]) del(key K) bool {
	at := l.find(key)
	if at < 0 {
		return false
	}
	*l = slices.Delete(*l, at, at+1)
	return true
}

// find returns where the entry of a key stands, or -1.
func (l *list[K, V]) find(key K) int {
	return slices.IndexFunc(*l, func(e entry[K, V]) bool { return e.key == key })
}
