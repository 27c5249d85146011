package index

import (
	"slices"

	"redpencil/api"
	"redpencil/node"
	"redpencil/walk"
)

// visible returns the visible nodes of a store, in the order of the tree, so that each stands at its index, or an error.
func visible(l []api.Node) ([]api.Node, api.Errno) {
	order, e := walk.Order(l)
	return alive(order), e
}

// alive returns those of some nodes that are not dead. It takes their list, so it must be no one else's.
func alive(l []api.Node) []api.Node { return slices.DeleteFunc(l, node.Dead) }

// wanted is what is asked about a node that is looked for.
type wanted struct{ dot api.Dot }

// is reports whether a node is the wanted one.
func (w wanted) is(n api.Node) bool { return n.Dot == w.dot }

// place returns where the node with a dot stands in a list, -1 if none has it.
func place(l []api.Node, d api.Dot) int { return slices.IndexFunc(l, wanted{dot: d}.is) }

// first returns the first of some errors that is one. They are given in the order in which the chapter lists them.
func first(errors ...api.Errno) api.Errno {
	for _, e := range errors {
		if e != api.OK {
			return e
		}
	}
	return api.OK
}

// unless returns an error, unless something holds.
func unless(holds bool, e api.Errno) api.Errno {
	if holds {
		return api.OK
	}
	return e
}
