package omap

// Neither side of a tree has more than wide times the weight of the other one; a side that is too heavy gives its own inner side away if this has less than deep times the weight of its outer one. With these two numbers one more or one less never takes more than that (Hirai and Yamamoto, Balancing weight-balanced trees, 2011).
const (
	wide = 3
	deep = 2
)

// weight returns what a tree counts for; an empty one must count, too, or a single entry would be too heavy beside it.
func (t *tree[K, V]) weight() int { return t.len() + 1 }

// over returns the tree that has the entry of another one between two trees.
func (t *tree[K, V]) over(left, right *tree[K, V]) *tree[K, V] {
	return &tree[K, V]{key: t.key, value: t.value, left: left, right: right, size: left.len() + 1 + right.len()}
}

// balanced returns the tree with the same entries, none of whose sides is too heavy; at most one entry may be too many, or lacking.
func (t *tree[K, V]) balanced() *tree[K, V] {
	left, right := t.left, t.right
	switch {
	case right.weight() > wide*left.weight():
		if right.left.weight() >= deep*right.right.weight() {
			t = t.over(left, right.leftUp())
		}
		return t.rightUp()
	case left.weight() > wide*right.weight():
		if left.right.weight() >= deep*left.left.weight() {
			t = t.over(left.rightUp(), right)
		}
		return t.leftUp()
	}
	return t
}

// leftUp and rightUp return the tree with the same entries that has the one of the left or of the right side, which must not be empty, on top.
func (t *tree[K, V]) leftUp() *tree[K, V] {
	return t.left.over(t.left.left, t.over(t.left.right, t.right))
}
func (t *tree[K, V]) rightUp() *tree[K, V] {
	return t.right.over(t.over(t.left, t.right.left), t.right.right)
}
