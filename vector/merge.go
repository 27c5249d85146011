package vector

import (
	"slices"

	"redpencil/api"
	"redpencil/dot"
)

// Of returns the smallest vector that has some dots, or an error.
func Of(l []api.Dot) (api.Vector, api.Errno) {
	var last counters
	for _, d := range l {
		if !dot.Valid(d) {
			return nil, api.ErrArg
		}
		last[d.Replica] = max(last[d.Replica], d.Counter)
	}
	return last.vector(), api.OK
}

// Raise returns the smallest vector that has all dots of another one, and one more, or an error.
func Raise(v api.Vector, d api.Dot) (api.Vector, api.Errno) { return Merge(v, api.Vector{d}) }

// Merge returns the smallest vector that has all dots of two, or an error.
func Merge(a, b api.Vector) (api.Vector, api.Errno) {
	if !Valid(a) || !Valid(b) {
		return nil, api.ErrArg
	}
	return Of(slices.Concat(a, b))
}

// Order returns whether two vectors are equal (0), the first one has fewer dots (-1) or more (1), or neither (2), or an error.
func Order(a, b api.Vector) (int, api.Errno) {
	if !Valid(a) || !Valid(b) {
		return 0, api.ErrArg
	}
	there, back := within(a, b), within(b, a)
	switch {
	case there && back:
		return 0, api.OK
	case there:
		return -1, api.OK
	case back:
		return 1, api.OK
	}
	return 2, api.OK
}

// within reports whether all dots of one valid vector are in another one.
func within(a, b api.Vector) bool {
	for _, d := range a {
		// Whoever has the last dot of a replica has those before it, too.
		if !Has(b, d) {
			return false
		}
	}
	return true
}

// counters is the counter of each replica, 0 for those of which there is no dot; no replica has the number 0.
type counters [api.MaxReplica + 1]int

// vector returns the vector with these counters.
func (c counters) vector() api.Vector {
	var v api.Vector
	for replica, counter := range c {
		if counter > 0 {
			v = append(v, api.Dot{Replica: replica, Counter: counter})
		}
	}
	return v
}
