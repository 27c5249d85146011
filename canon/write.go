package canon

import (
	"redpencil/api"
	"redpencil/runes"
	"redpencil/varint"
)

const (
	// noRune is the rune of a node that is dead.
	noRune rune = 0
	// noReplica is the replica of the root.
	noReplica = 0
)

// putState writes a state that is allowed.
func putState(w *varint.Writer, s api.State) {
	w.Num(uint64(len(s)))
	var text []rune
	before := 0
	for _, n := range s {
		putNode(w, n, before)
		before = n.Dot.Counter
		if n.Rune != noRune {
			text = append(text, n.Rune)
		}
	}
	// There is no error: a valid node that is not dead has a rune that may be in a text.
	all, _ := runes.Encode(text)
	w.Put([]byte(all))
}

// putNode writes a node without its rune, behind a node with the counter before.
func putNode(w *varint.Writer, n api.Node, before int) {
	w.Num(uint64(n.Dot.Replica), uint64(n.Dot.Counter-before))
	w.Num(uint64(n.Parent.Replica))
	// What reads this knows the root by its replica alone.
	if n.Parent.Replica != noReplica {
		w.Num(uint64(n.Parent.Counter))
	}
	w.Num(timeAndLife(n))
}

// timeAndLife returns the number that says the time of a node, and whether it is dead.
func timeAndLife(n api.Node) uint64 {
	twice := 2 * uint64(n.Time)
	if n.Rune == noRune {
		return twice + 1
	}
	return twice
}

// putDots writes a list of dots.
func putDots(w *varint.Writer, l []api.Dot) {
	w.Num(uint64(len(l)))
	for _, d := range l {
		w.Num(uint64(d.Replica), uint64(d.Counter))
	}
}
