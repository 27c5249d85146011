package shape

import "redpencil/api"

// nowhere is the place of what is above a node whose parent is the root, or is lacking.
const nowhere = -1

// gone reports, of each node of a store, whether it is not in the whole part: it has a flaw, or one above it has.
func (l list) gone() []bool {
	gone, above := l.flawed(), l.above()
	for more := true; more; {
		more = false
		for i, up := range above {
			if gone[i] || up == nowhere {
				continue
			}
			gone[i] = gone[up]
			more = more || gone[i]
			// A chain may be as long as a text, and stand in the store the other way round, so what was looked at up to there is passed over next time.
			above[i] = above[up]
		}
	}
	return gone
}

// flawed reports, of each node, whether it has a flaw of its own.
func (l list) flawed() []bool {
	flawed := make([]bool, 0, len(l.nodes))
	for _, f := range l.flaws() {
		flawed = append(flawed, f != api.FlawNone)
	}
	return flawed
}

// above returns where the parent of each node of a store is.
func (l list) above() []int {
	above := make([]int, 0, len(l.nodes))
	for _, n := range l.nodes {
		place, is := l.places[n.Parent]
		if !is {
			place = nowhere
		}
		above = append(above, place)
	}
	return above
}
