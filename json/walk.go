package json

import (
	"slices"
	"strings"

	"portolan/api"
)

// endless is more nesting than the document promises anything of: in practice only a list that holds itself has so much, and going on there would never end.
const endless = 1 << 17

// tried is what a work makes, and true; nothing, if it was given up as endless.
func tried[T any](work func() T) (made T, ends bool) {
	defer func() {
		if recover() != nil {
			ends = false
		}
	}()
	return work(), true
}

func giveUpEndless(within int) {
	if within > endless {
		panic(api.ErrDeep)
	}
}

// same goes field by field, so that it also holds for what is no value.
func same(a, b Value, within int) bool {
	giveUpEndless(within)
	if a.Kind != b.Kind || a.B != b.B || a.N != b.N || a.S != b.S {
		return false
	}
	if len(a.L) != len(b.L) || len(a.M) != len(b.M) {
		return false
	}
	for k := range a.L {
		if !same(a.L[k], b.L[k], within+1) {
			return false
		}
	}
	return len(a.M) == 0 || sameEntries(rising(a.M), rising(b.M), within+1)
}

// sameEntries is of as many entries in both, by rising keys, and moves them about. What is no value may have one key more than once: each such entry takes another one for its own.
func sameEntries(a, b []Entry, within int) bool {
	for k, x := range a {
		left := b[k:]
		at := slices.IndexFunc(left, func(y Entry) bool { return y.Key == x.Key && same(x.V, y.V, within) })
		if at < 0 {
			return false
		}
		left[0], left[at] = left[at], left[0]
	}
	return true
}

// rising is a new list of the entries, by the bytes of their keys.
func rising(l []Entry) []Entry {
	return slices.SortedFunc(slices.Values(l), func(x, y Entry) int { return strings.Compare(x.Key, y.Key) })
}

// own is the same value in memory of its own, and true; nothing, if it is endless.
func own(v Value) (Value, bool) {
	return tried(func() Value { return copied(v, 0) })
}

func copied(v Value, within int) Value {
	giveUpEndless(within)
	v.L = slices.Clone(v.L)
	for k, x := range v.L {
		v.L[k] = copied(x, within+1)
	}
	v.M = slices.Clone(v.M)
	for k, x := range v.M {
		v.M[k].V = copied(x.V, within+1)
	}
	return v
}
