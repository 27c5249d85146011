package omap

// place is where a key belongs among the entries of a map.
type place[K, V any] struct {
	// The entries are those that the key was looked for in, whatever the order itself does to the map meanwhile.
	in *tree[K, V]
	// So many keys come before the key.
	before int
	// The node with the key is nil if the key is not there.
	node *tree[K, V]
}

// find returns the place of a key, and whether it has one. Where there is no map, and where the order panics (no method may panic, whatever the key is), it has none; then the place is one among no entries.
func (m *Map[K, V]) find(k K) (p place[K, V], found bool) {
	defer func() { recover() }()
	if m.none() {
		return p, false
	}
	return m.seek(k), true
}

// seek goes down to the place of a key.
func (m *Map[K, V]) seek(k K) place[K, V] {
	p := place[K, V]{in: m.entries, node: m.entries}
	for p.node != nil {
		c := m.compare(k, p.node.key)
		if c == 0 {
			p.before += p.node.left.len()
			return p
		}
		if c < 0 {
			p.node = p.node.left
		} else {
			p.before += p.node.left.len() + 1
			p.node = p.node.right
		}
	}
	return p
}
