package context

import (
	"slices"

	"redpencil/api"
	"redpencil/dot"
	"redpencil/vector"
)

// Of returns the compact context with some dots, or an error.
func Of(l []api.Dot) (api.Context, api.Errno) { return Compact(api.Context{Cloud: dot.Set(l)}) }

// Add returns a compact context with some dots more, or an error.
func Add(c api.Context, l []api.Dot) (api.Context, api.Errno) {
	return Union(c, api.Context{Cloud: dot.Set(l)})
}

// Union returns the compact context with all dots of two, or an error.
func Union(a, b api.Context) (api.Context, api.Errno) {
	if !Valid(a) || !Valid(b) {
		return api.Context{}, api.ErrArg
	}
	v, _ := vector.Merge(a.Vector, b.Vector)
	return compacted(api.Context{Vector: v, Cloud: dot.Union(a.Cloud, b.Cloud)}), api.OK
}

// Within reports whether all dots of a context are in another one, or returns an error.
func Within(a, b api.Context) (bool, api.Errno) {
	if !Valid(a) || !Valid(b) {
		return false, api.ErrArg
	}
	// All dots of a beginning are in a compact context just if its last one is in the vector: what a cloud has stands behind a gap.
	whole := compacted(b)
	order, _ := vector.Order(a.Vector, whole.Vector)
	return order <= 0 && !slices.ContainsFunc(a.Cloud, missingFrom(whole)), api.OK
}

// Missing returns the set of those of some dots that a context does not have.
func Missing(c api.Context, l []api.Dot) []api.Dot {
	missing := missingFrom(c)
	var out []api.Dot
	for _, d := range dot.Set(l) {
		if missing(d) {
			out = append(out, d)
		}
	}
	return out
}

// missingFrom returns the question whether a dot is not in a context.
func missingFrom(c api.Context) func(d api.Dot) bool {
	// In a set a dot is found without a look at all of the others.
	cloud := dot.Set(c.Cloud)
	return func(d api.Dot) bool {
		_, found := slices.BinarySearchFunc(cloud, d, dot.Compare)
		return !dot.Valid(d) || !found && !vector.Has(c.Vector, d)
	}
}
