package context

import (
	"slices"

	"redpencil/api"
	"redpencil/vector"
)

// IsCompact reports whether a context is allowed, and compact, too.
func IsCompact(c api.Context) bool {
	return Valid(c) && !slices.ContainsFunc(c.Cloud, nearTo(countersOf(c.Vector)))
}

// Compact returns the compact context with the same dots, or an error.
func Compact(c api.Context) (api.Context, api.Errno) {
	if !Valid(c) {
		return api.Context{}, api.ErrArg
	}
	return compacted(c), api.OK
}

// compacted returns the compact context with the dots of a valid one.
func compacted(c api.Context) api.Context {
	last := countersOf(c.Vector)
	near := nearTo(last)
	begins := slices.Clone(c.Vector)
	var cloud []api.Dot
	// The counters grow along the cloud, so what is behind a gap when its turn comes stays behind it: one look at each dot is enough.
	for _, d := range c.Cloud {
		if near(d) {
			last[d.Replica] = max(last[d.Replica], d.Counter)
			begins = append(begins, d)
		} else {
			cloud = append(cloud, d)
		}
	}
	// To raise the vector once, by all dots together, saves making one for each dot.
	v, _ := vector.Of(begins)
	return api.Context{Vector: v, Cloud: cloud}
}

// nearTo returns the question whether a dot is in the beginnings that end with some counters, or directly behind one of them, as these are when it is asked.
func nearTo(last *counters) func(d api.Dot) bool {
	return func(d api.Dot) bool { return d.Counter <= last[d.Replica]+1 }
}

// counters is the counter of each replica, 0 for those that a vector doesn't have; no replica has the number 0.
type counters [api.MaxReplica + 1]int

// countersOf returns the counters of a valid vector.
func countersOf(v api.Vector) *counters {
	var c counters
	for _, d := range v {
		c[d.Replica] = d.Counter
	}
	return &c
}
