package omap

import (
	"cmp"
	"testing"
)

// isBalanced reports whether a tree and all below it have the right sizes, and no side with more than three times the weight of the other one.
func isBalanced[K, V any](t *tree[K, V]) bool {
	if t == nil {
		return true
	}
	left, right := t.left.len()+1, t.right.len()+1
	return t.size == left+right-1 && left <= 3*right && right <= 3*left && isBalanced(t.left) && isBalanced(t.right)
}

// What no result shows: however keys come and go, by one call or the next one, the trees are balanced.
func TestTreesStayBalanced(t *testing.T) {
	const n = 400
	seed := uint32(1)
	random := func(below int) int {
		seed = seed*1664525 + 1013904223
		return int(seed>>8) % below
	}
	for name, next := range map[string]func(i, size int) int{
		"first":          func(i, size int) int { return 0 },
		"last":           func(i, size int) int { return size },
		"middle":         func(i, size int) int { return size / 2 },
		"first and last": func(i, size int) int { return i % 2 * size },
		"first third":    func(i, size int) int { return size / 3 },
		"random":         func(i, size int) int { return random(size + 1) },
		"random below":   func(i, size int) int { return random(size/8 + 1) },
		"random above":   func(i, size int) int { return size - random(size/8+1) },
	} {
		for _, back := range []func(i, size int) int{
			func(i, size int) int { return 0 },
			func(i, size int) int { return size - 1 },
			func(i, size int) int { return size / 2 },
			func(i, size int) int { return random(size) },
			func(i, size int) int { return min(next(i, size), size-1) },
		} {
			// More come than go until there are many, and then more go; at last nothing is left.
			var all *tree[int, int]
			for i := 0; i < n || all != nil; i++ {
				come := i < n && i%3 < 2 || i >= n && i%3 == 2 && i < 2*n
				if come || all == nil {
					all = all.with(next(i, all.len()), i, i)
				} else {
					all = all.without(back(i, all.len()))
				}
				if !isBalanced(all) {
					t.Fatalf("%s: a tree of %d is not balanced after %d calls", name, all.len(), i+1)
				}
			}
		}
	}
}

// What no result shows: no tree changes once it is made, so it does not matter who else has it.
func TestTreesDoNotChange(t *testing.T) {
	m := New[int, int](cmp.Compare)
	for i := range 100 {
		m.Set(i, i)
	}
	before := *m.entries
	left, right := *before.left, *before.right
	all := m.entries
	for i := range 100 {
		m.Set(i, -1)
		m.Set(i+100, -1)
		m.Delete(99 - i)
	}
	if *all != before || *before.left != left || *before.right != right {
		t.Error("a tree has changed")
	}
}
