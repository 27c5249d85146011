package shape

import (
	"redpencil/api"
	"redpencil/dot"
	"redpencil/node"
)

// list is nodes, and where the first one with each dot is: a list that is no store may have several of them.
type list struct {
	nodes  []api.Node
	places map[api.Dot]int
}

// listOf returns nodes as a list.
func listOf(l []api.Node) list {
	places := make(map[api.Dot]int, len(l))
	for i, n := range l {
		if _, is := places[n.Dot]; !is {
			places[n.Dot] = i
		}
	}
	return list{nodes: l, places: places}
}

// flaws returns the flaw of each node.
func (l list) flaws() []api.Flaw {
	flaws := make([]api.Flaw, 0, len(l.nodes))
	for i := range l.nodes {
		flaws = append(flaws, l.flaw(i))
	}
	return flaws
}

// flaw returns the first thing that is wrong with the node at a place.
func (l list) flaw(i int) api.Flaw {
	n := l.nodes[i]
	switch {
	case !node.Valid(n):
		return api.FlawNode
	case i > 0 && dot.Compare(l.nodes[i-1].Dot, n.Dot) >= 0:
		return api.FlawOrder
	case dot.Root(n.Parent):
		return api.FlawNone
	}
	above, is := l.places[n.Parent]
	switch {
	case !is:
		return api.FlawParent
	case n.Time <= l.nodes[above].Time:
		return api.FlawTime
	}
	return api.FlawNone
}
