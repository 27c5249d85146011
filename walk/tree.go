package walk

import (
	"iter"
	"slices"

	"redpencil/api"
	"redpencil/node"
	"redpencil/omap"
)

// tree is the children of each dot, and of the root, in their order. Its maps have no values: the nodes are the keys.
type tree map[api.Dot]*omap.Map[api.Node, struct{}]

// treeOf returns the tree of the nodes of a store, of which it keeps nothing.
func treeOf(l []api.Node) tree {
	t := make(tree, len(l))
	for _, n := range l {
		if t[n.Parent] == nil {
			t[n.Parent] = omap.New[api.Node, struct{}](inOrder)
		}
		t[n.Parent].Set(n, struct{}{})
	}
	return t
}

// inOrder compares two nodes with one parent.
func inOrder(a, b api.Node) int {
	switch {
	case node.Before(a, b):
		return -1
	case node.Before(b, a):
		return 1
	}
	return 0
}

// all goes over the nodes that are reached, in the order of the tree, with their depths.
func (t tree) all() iter.Seq2[int, api.Node] { return t.below(api.Dot{}) }

// below goes over all nodes below a dot, in the order of the tree, with how far below its children they are. The dot must be that of a reached node, or the root: what goes round in a circle has no end.
func (t tree) below(d api.Dot) iter.Seq2[int, api.Node] {
	return func(yield func(int, api.Node) bool) {
		// A chain may be as long as the text, too long for calls within calls, so what is still to come is kept in a list.
		coming := t.before(nil, d, 0)
		for len(coming) > 0 {
			last := len(coming) - 1
			next := coming[last]
			if !yield(next.depth, next.node) {
				return
			}
			coming = t.before(coming[:last], next.node.Dot, next.depth+1)
		}
	}
}

// nodeAt is a node with its depth.
type nodeAt struct {
	depth int
	node  api.Node
}

// before returns what is still to come, the last one first, with the children of a dot in front of it.
func (t tree) before(coming []nodeAt, d api.Dot, depth int) []nodeAt {
	first := len(coming)
	for n := range t[d].All() {
		coming = append(coming, nodeAt{depth: depth, node: n})
	}
	slices.Reverse(coming[first:])
	return coming
}

// path returns the dots on the way from the root down to a dot, nil if no reached node has it.
func (t tree) path(d api.Dot) []api.Dot {
	var path []api.Dot
	for depth, n := range t.all() {
		path = append(path[:depth], n.Dot)
		if n.Dot == d {
			return path
		}
	}
	return nil
}
