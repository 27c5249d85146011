package decode

import (
	"redpencil/api"
	"redpencil/canon"
	"redpencil/context"
	"redpencil/runes"
	"redpencil/store"
	"redpencil/varint"
)

const (
	// noReplica is the replica of the root.
	noReplica = 0
	// maxRuneSize is how many bytes a rune has at most.
	maxRuneSize = 4
)

// must panics with an error.
func must(e api.Errno) {
	if e != api.OK {
		panic(e)
	}
}

// mustBe panics if something is not right.
func mustBe(right bool) {
	if !right {
		must(api.ErrMalformed)
	}
}

// number reads a number up to a greatest one.
func number(r *varint.Reader, most uint64) uint64 {
	n, e := r.Num(most)
	must(e)
	return n
}

// lastState reads a state behind which nothing may be left.
func lastState(r *varint.Reader) api.State {
	s := state(r)
	must(r.End())
	return s
}

// state reads a state.
func state(r *varint.Reader) api.State {
	var s api.State
	var living []int
	before := 0
	// The list grows with what is really there: the number of nodes alone costs nobody any memory.
	for i := range int(number(r, canon.MaxNodes)) {
		n, lives := node(r, before)
		before = n.Dot.Counter
		s = append(s, n)
		if lives {
			living = append(living, i)
		}
	}
	for k, c := range text(r, len(living)) {
		s[living[k]].Rune = c
	}
	mustBe(store.Valid(s))
	return s
}

// node reads a node behind one with the counter before, and whether it lives; its rune stands elsewhere.
func node(r *varint.Reader, before int) (api.Node, bool) {
	var n api.Node
	n.Dot.Replica = int(number(r, api.MaxReplica))
	// The sum of all of these is far from overflowing, and so whether it is too great can be found at the end.
	n.Dot.Counter = before + int(number(r, api.MaxCounter))
	n.Parent.Replica = int(number(r, api.MaxReplica))
	if n.Parent.Replica != noReplica {
		n.Parent.Counter = int(number(r, api.MaxCounter))
	}
	timeAndLife := number(r, 2*api.MaxTime+1)
	n.Time = int(timeAndLife / 2)
	return n, timeAndLife%2 == 0
}

// text reads the runes of a number of nodes.
func text(r *varint.Reader, size int) []rune {
	b, e := r.Bytes(size * maxRuneSize)
	must(e)
	l, e := runes.Decode(string(b))
	must(e)
	mustBe(len(l) == size)
	return l
}

// compactContext reads a context.
func compactContext(r *varint.Reader) api.Context {
	c := api.Context{Vector: dots(r), Cloud: dots(r)}
	mustBe(context.IsCompact(c))
	return c
}

// dots reads a list of dots.
func dots(r *varint.Reader) []api.Dot {
	var l []api.Dot
	for range number(r, canon.MaxNodes) {
		l = append(l, api.Dot{Replica: int(number(r, api.MaxReplica)), Counter: int(number(r, api.MaxCounter))})
	}
	return l
}
