package book

import (
	"slices"

	"tarmac/api"
)

// look is what a map has of a key.
func look[K comparable, V any](m map[K]V, k K) (V, api.Errno) {
	v, ok := m[k]
	if !ok {
		return v, api.ErrNone
	}
	return v, api.OK
}

// change lets a map have something else of a key of which it has something.
func change[K comparable, V any](m map[K]V, k K, v V) api.Errno {
	if _, ok := m[k]; !ok {
		return api.ErrNone
	}
	m[k] = v
	return api.OK
}

// sortedKeys are a map's keys, in an order that tells any two of them apart.
func sortedKeys[K comparable, V any](m map[K]V, order func(x, y K) int) []K {
	var l []K
	for k := range m {
		l = append(l, k)
	}
	slices.SortFunc(l, order)
	return l
}

// total is how much there is in all of what each of a map's values is worth.
func total[K comparable, V any](m map[K]V, worth func(K, V) int) int {
	all := 0
	for k, v := range m {
		all += worth(k, v)
	}
	return all
}

// howMany tells how many of these hold.
func howMany(facts ...bool) int {
	n := 0
	for _, holds := range facts {
		if holds {
			n++
		}
	}
	return n
}
