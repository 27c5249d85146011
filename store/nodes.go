package store

import (
	"slices"

	"redpencil/api"
	"redpencil/dot"
	"redpencil/node"
)

// Find returns the node with a dot, or an error.
func Find(l []api.Node, d api.Dot) (api.Node, api.Errno) {
	if !Valid(l) || !dot.Valid(d) {
		return api.Node{}, api.ErrArg
	}
	at, is := places(l)[d]
	if !is {
		return api.Node{}, api.ErrNone
	}
	return l[at], api.OK
}

// Put returns a store with one more node, or an error.
func Put(l []api.Node, n api.Node) ([]api.Node, api.Errno) {
	if !Valid(l) {
		return nil, api.ErrArg
	}
	return Of(slices.Concat(l, []api.Node{n}))
}

// Kill returns a store in which some nodes were deleted, or an error.
func Kill(l []api.Node, dots []api.Dot) ([]api.Node, api.Errno) {
	if !Valid(l) || slices.ContainsFunc(dots, noDot) {
		return nil, api.ErrArg
	}
	there := places(l)
	out := slices.Clone(l)
	for _, d := range dots {
		at, is := there[d]
		if !is {
			return nil, api.ErrNone
		}
		out[at] = node.Kill(out[at])
	}
	return out, api.OK
}

// noDot reports whether a dot is not that of a node.
func noDot(d api.Dot) bool { return !dot.Valid(d) }

// places returns where the node with each dot of a store is.
func places(l []api.Node) map[api.Dot]int {
	m := make(map[api.Dot]int, len(l))
	for at, n := range l {
		m[n.Dot] = at
	}
	return m
}
