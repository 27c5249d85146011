package edit

import (
	"cmp"
	"slices"

	"redpencil/api"
	"redpencil/dot"
	"redpencil/runes"
)

// chain returns new nodes for runes, each of them below the one before and later than it, the first one below a parent and later than a time.
func chain(d, parent api.Dot, time int, l []rune) api.State {
	nodes := make(api.State, 0, len(l))
	for i := range len(l) {
		n := api.Node{
			Dot:    api.Dot{Replica: d.Replica, Counter: d.Counter + i},
			Parent: parent,
			Time:   time + 1 + i,
			Rune:   l[i],
		}
		nodes, parent = append(nodes, n), n.Dot
	}
	return nodes
}

// part returns the nodes of a state that have some dots.
func part(s api.State, dots []api.Dot) api.State {
	// The nodes of a state are in the order of a set, so the next one that is found has the first dot that is left.
	left := dot.Set(dots)
	nodes := make(api.State, 0, len(left))
	for _, n := range s {
		if len(left) > 0 && n.Dot == left[0] {
			nodes, left = append(nodes, n), left[1:]
		}
	}
	return nodes
}

// taken reports whether a state has one of as many dots as are counted from one on.
func taken(s api.State, d api.Dot, count int) bool {
	return slices.ContainsFunc(s, func(n api.Node) bool {
		return n.Dot.Replica == d.Replica && d.Counter <= n.Dot.Counter && n.Dot.Counter < d.Counter+count
	})
}

// noRune reports whether a rune may not be in a text.
func noRune(r rune) bool { return !runes.Valid(r) }

// first returns the first of some errors that is one. They are given in the order in which the chapter lists them.
func first(errors ...api.Errno) api.Errno {
	// No error is the zero value, which Or passes over.
	return cmp.Or(errors...)
}

// unless returns an error, unless something holds.
func unless(holds bool, e api.Errno) api.Errno {
	if holds {
		return api.OK
	}
	return e
}
