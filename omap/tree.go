package omap

import "iter"

// tree is entries in their order: those on the left, then its own one, then those on the right; a nil one has none. No tree changes once it is made, so that maps, their copies and iterators may have the same one: what is to be another one is made anew, from the top down to what differs.
type tree[K, V any] struct {
	key         K
	value       V
	left, right *tree[K, V]
	size        int
}

// len returns how many entries there are.
func (t *tree[K, V]) len() int {
	if t == nil {
		return 0
	}
	return t.size
}

// entry returns the key and the value on top, and whether there is an entry.
func (t *tree[K, V]) entry() (k K, v V, is bool) {
	if t == nil {
		return k, v, false
	}
	return t.key, t.value, true
}

// at returns the node whose entry has an index, nil if there is none.
func (t *tree[K, V]) at(i int) *tree[K, V] {
	for t != nil && i != t.left.len() {
		if i < t.left.len() {
			t = t.left
		} else {
			i -= t.left.len() + 1
			t = t.right
		}
	}
	return t
}

// from goes over the entries from an index on.
func (t *tree[K, V]) from(first int) iter.Seq2[K, V] {
	return func(yield func(K, V) bool) {
		// The iterator may be gone over again, so it goes on with variables of its own.
		for t, i := t, first; t != nil; t = t.right {
			before := t.left.len()
			if i < before {
				for k, v := range t.left.from(i) {
					if !yield(k, v) {
						return
					}
				}
			}
			if i <= before && !yield(t.key, t.value) {
				return
			}
			i -= before + 1
		}
	}
}

// changed returns the tree with another value at an index, which there must be.
func (t *tree[K, V]) changed(i int, v V) *tree[K, V] {
	c := *t
	before := t.left.len()
	switch {
	case i < before:
		c.left = t.left.changed(i, v)
	case i > before:
		c.right = t.right.changed(i-before-1, v)
	default:
		c.value = v
	}
	return &c
}

// with returns the tree with one entry more, in front of which there are some of the others.
func (t *tree[K, V]) with(before int, k K, v V) *tree[K, V] {
	if t == nil {
		return &tree[K, V]{key: k, value: v, size: 1}
	}
	if before <= t.left.len() {
		return t.over(t.left.with(before, k, v), t.right).balanced()
	}
	return t.over(t.left, t.right.with(before-t.left.len()-1, k, v)).balanced()
}

// without returns the tree without the entry at an index, which there must be.
func (t *tree[K, V]) without(i int) *tree[K, V] {
	before := t.left.len()
	switch {
	case i < before:
		return t.over(t.left.without(i), t.right).balanced()
	case i > before:
		return t.over(t.left, t.right.without(i-before-1)).balanced()
	case t.right == nil:
		return t.left
	}
	// The next entry takes the place of the one that goes.
	return t.right.at(0).over(t.left, t.right.without(0)).balanced()
}
