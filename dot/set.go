package dot

import (
	"slices"

	"redpencil/api"
)

// IsSet reports whether a list is a set: in increasing order, each dot once.
func IsSet(l []api.Dot) bool {
	for i := range l {
		if i > 0 && Compare(l[i-1], l[i]) >= 0 {
			return false
		}
	}
	return true
}

// Set returns the set of the dots of a list.
func Set(l []api.Dot) []api.Dot { return choice{from: l, stays: always}.set() }

// Has reports whether a list has a dot.
func Has(l []api.Dot, d api.Dot) bool { return slices.Contains(l, d) }

// Union and Minus return the sets of the dots that are in one of two lists, and in the first one alone.
func Union(a, b []api.Dot) []api.Dot {
	return choice{from: slices.Concat(a, b), stays: always}.set()
}
func Minus(a, b []api.Dot) []api.Dot {
	// In a set a dot is found without a look at all of the others.
	gone := Set(b)
	return choice{from: a, stays: func(d api.Dot) bool {
		_, found := slices.BinarySearchFunc(gone, d, Compare)
		return !found
	}}.set()
}

// choice is the dots to choose from, and which of them stay.
type choice struct {
	from  []api.Dot
	stays func(d api.Dot) bool
}

// set returns the set of the dots that stay.
func (c choice) set() []api.Dot {
	l := make([]api.Dot, 0, len(c.from))
	for _, d := range c.from {
		if c.stays(d) {
			l = append(l, d)
		}
	}
	slices.SortFunc(l, Compare)
	return slices.Compact(l)
}

// always is what stays if every dot does.
func always(api.Dot) bool { return true }
