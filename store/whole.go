package store

import (
	"redpencil/api"
	"redpencil/context"
	"redpencil/dot"
	"redpencil/node"
)

// Context returns the context of the dots of all nodes, Dead that of those that were deleted, or an error.
func Context(l []api.Node) (api.Context, api.Errno) { return contextOf(l, everyNode) }
func Dead(l []api.Node) (api.Context, api.Errno)    { return contextOf(l, node.Dead) }

// everyNode is the choice of all nodes.
func everyNode(api.Node) bool { return true }

// contextOf returns the context of the dots of those nodes of a store that are chosen, or an error.
func contextOf(l []api.Node, chosen func(n api.Node) bool) (api.Context, api.Errno) {
	if !Valid(l) {
		return api.Context{}, api.ErrArg
	}
	var dots []api.Dot
	for _, n := range l {
		if chosen(n) {
			dots = append(dots, n.Dot)
		}
	}
	return context.Of(dots)
}

// Time returns the greatest time of all nodes, or an error.
func Time(l []api.Node) (int, api.Errno) {
	if !Valid(l) {
		return 0, api.ErrArg
	}
	latest := 0
	for _, n := range l {
		latest = max(latest, n.Time)
	}
	return latest, api.OK
}

// Lacking returns the parents that are not there, or an error.
func Lacking(l []api.Node) ([]api.Dot, api.Errno) {
	if !Valid(l) {
		return nil, api.ErrArg
	}
	parents := map[api.Dot]bool{}
	for _, n := range l {
		parents[n.Parent] = true
	}
	there := places(l)
	var lacking []api.Dot
	for d := range parents {
		if _, is := there[d]; !is && !dot.Root(d) {
			lacking = append(lacking, d)
		}
	}
	// A map is gone over in any order, a set is not.
	return dot.Set(lacking), api.OK
}
