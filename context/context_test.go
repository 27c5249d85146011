package context_test

import (
	"math"
	"slices"
	"testing"

	"redpencil/api"
	"redpencil/context"
)

// P6.1: contexts of the chapter's examples, and some more.
func TestValid(t *testing.T) {
	for s, want := range map[string]bool{
		"1.2 / 2.1 1.3 1.5": true, "1.2 / 1.4 1.3": false, "1.2 / 1.4": true, "1.2 / 1.3": true, "1.5 / 1.3": true, "- / 1.2 1.4": true, "1.2 / 1.2 1.4": true, "- / none": true, "1.2 / none": true, "- / 1.1": true,
		"64.4294967295 / 64.4294967295": true, "1.1 2.1 64.1 / 1.1 2.1 64.1": true, "1.9 2.8 / 2.1 1.2": true,
		// Vectors that are not valid: replicas out of order or twice, and dots that are not valid.
		"2.1 1.2 / -": false, "1.2 1.2 / -": false, "1.2 1.3 / -": false, "3.7 1.2 / 1.4": false, "0.0 / -": false, "0.1 / -": false, "1.0 / -": false, "65.1 / -": false, "1.4294967296 / -": false, "-1.2 / -": false, "1.-2 / -": false, "1.2 2.0 / -": false, "1.2 2.0 3.1 / 1.1": false,
		// Clouds that are no sets: out of order, or with a dot that comes twice.
		"- / 1.2 1.1": false, "- / 2.1 1.1": false, "- / 1.1 1.1": false, "- / 1.2 2.1": false, "1.5 / 1.3 1.2": false, "1.2 / 1.4 1.4": false, "1.2 / 1.4 1.5 1.5": false, "1.2 / 1.4 2.5 1.5": false, "- / 1.1 1.3 1.2": false, "- / 1.1 2.1 1.1": false,
		// Clouds with dots that are not valid, although in order.
		"- / 0.0": false, "- / 0.0 1.1": false, "- / 0.1 1.1": false, "- / 1.0 1.1": false, "- / 1.1 65.1": false, "- / 1.1 1.4294967296": false, "- / 1.-1 1.1": false, "- / -1.1 1.1": false, "1.2 / 1.1 0.2 1.2": false, "1.2 / 1.1 65.1 1.2": false,
		// Both.
		"2.1 1.1 / 1.2 1.1": false, "0.0 / 0.0": false,
	} {
		if is := context.Valid(ctx(s)); is != want {
			t.Errorf("Valid(%s) = %t, want %t", s, is, want)
		}
	}
}

// P6.1
func TestValidOfManyContexts(t *testing.T) {
	for _, c := range slices.Concat(small(), few(), valid(), long(), wrong()) {
		if is, want := context.Valid(c), isValid(c); is != want {
			t.Fatalf("Valid(%v) = %t, want %t", c, is, want)
		}
	}
	for _, c := range slices.Concat(few(), valid(), long()) {
		if !context.Valid(c) {
			t.Fatalf("%v is not valid", c)
		}
	}
	for _, c := range wrong() {
		if context.Valid(c) {
			t.Fatalf("%v is valid", c)
		}
	}
}

// P6.1: each dot alone, in the vector or in the cloud, and every two.
func TestValidAtTheEdges(t *testing.T) {
	for _, d := range edgeDots() {
		if in, beside := context.Valid(api.Context{Vector: api.Vector{d}}), context.Valid(api.Context{Cloud: []api.Dot{d}}); in != isDot(d) || beside != isDot(d) {
			t.Errorf("with %v in the vector: %t, in the cloud: %t", d, in, beside)
		}
		for _, e := range edgeDots() {
			for _, c := range []api.Context{{Vector: api.Vector{d, e}}, {Cloud: []api.Dot{d, e}}, {Vector: api.Vector{d}, Cloud: []api.Dot{e}}} {
				if is, want := context.Valid(c), isValid(c); is != want {
					t.Fatalf("Valid(%v) = %t, want %t", c, is, want)
				}
			}
		}
	}
}

// P6.2: the examples of the chapter, and some more.
func TestHas(t *testing.T) {
	for _, c := range []struct {
		c    string
		d    api.Dot
		want bool
	}{
		{"1.2 / 1.4", dotOf(1, 1), true}, {"1.2 / 1.4", dotOf(1, 3), false}, {"1.2 / 1.4", dotOf(1, 4), true},
		{"1.2 / 1.4", dotOf(1, 2), true}, {"1.2 / 1.4", dotOf(1, 5), false}, {"1.2 / 1.4", dotOf(2, 1), false}, {"1.2 / 1.4", dotOf(2, 4), false}, {"1.2 / 1.4 2.5", dotOf(2, 5), true}, {"1.2 / 1.2", dotOf(1, 2), true}, {"1.5 / 1.3", dotOf(1, 4), true},
		{"- / none", dotOf(1, 1), false}, {"- / none", api.Dot{}, false}, {"- / 1.1", dotOf(1, 1), true}, {"1.1 / none", dotOf(1, 1), true}, {"- / 1.2", dotOf(1, 1), false},
		{"64.4294967295 / -", dotOf(64, 4294967295), true}, {"64.4294967294 / -", dotOf(64, 4294967295), false}, {"- / 64.4294967295", dotOf(64, 4294967295), true}, {"- / 64.4294967295", dotOf(64, 4294967294), false},
		// A dot that is not valid is in no context, not even in one that has it in its cloud or in its vector.
		{"1.2 / 1.4", api.Dot{}, false}, {"1.2 / 1.4", dotOf(1, 0), false}, {"1.2 / 1.4", dotOf(1, -1), false}, {"1.2 / 1.4", dotOf(0, 1), false}, {"- / 0.0", api.Dot{}, false}, {"- / 1.0", dotOf(1, 0), false}, {"- / 0.1", dotOf(0, 1), false}, {"- / 65.1", dotOf(65, 1), false}, {"- / 1.4294967296", dotOf(1, 4294967296), false}, {"- / 1.-1", dotOf(1, -1), false}, {"65.5 / -", dotOf(65, 1), false}, {"0.0 / 0.0", api.Dot{}, false}, {"1.4294967296 / -", dotOf(1, 4294967296), false},
		// A context that is not valid still has the valid dots of its cloud, in whatever order, and those of the first dot of a replica in its vector.
		{"- / 1.4 1.3", dotOf(1, 4), true}, {"- / 1.4 1.3", dotOf(1, 3), true}, {"- / 1.3 1.3", dotOf(1, 3), true}, {"- / 0.0 1.9 65.3 1.2", dotOf(1, 2), true}, {"- / 0.0 1.9 65.3 1.2", dotOf(1, 9), true}, {"- / 2.9 2.7 2.5 2.3 2.1", dotOf(2, 3), true}, {"- / 2.9 2.7 2.5 2.3 2.1", dotOf(2, 4), false},
		{"3.7 1.2 / 1.4", dotOf(1, 2), true}, {"1.2 1.9 / -", dotOf(1, 3), false}, {"1.9 1.2 / -", dotOf(1, 3), true}, {"1.2 1.9 / 1.3", dotOf(1, 3), true}, {"1.4294967296 / -", dotOf(1, 4294967295), true},
	} {
		if is := context.Has(ctx(c.c), c.d); is != c.want {
			t.Errorf("Has(%s, %v) = %t, want %t", c.c, c.d, is, c.want)
		}
	}
}

// P6.2
func TestHasOfManyContexts(t *testing.T) {
	for _, c := range slices.Concat(few(), thinned(small(), 3), thinned(valid(), 17), long(), thinned(wrong(), 7)) {
		for _, d := range slices.Concat(dots("1.1 1.2 1.3 1.4 2.1 3.1 3.2 64.1 0.0 65.1 2.0 1.4294967296 1.-1"), c.Vector, c.Cloud) {
			if is, want := context.Has(c, d), isIn(c, d); is != want {
				t.Fatalf("Has(%v, %v) = %t, want %t", c, d, is, want)
			}
		}
	}
	for _, d := range edgeDots() {
		for _, c := range []api.Context{{Vector: api.Vector{d}}, {Cloud: []api.Dot{d}}, {Vector: full(), Cloud: []api.Dot{d, d}}} {
			for _, e := range edgeDots() {
				if is, want := context.Has(c, e), isIn(c, e); is != want {
					t.Fatalf("Has(%v, %v) = %t, want %t", c, e, is, want)
				}
			}
		}
	}
}

// P6.2: an example of the chapter, and some more; a dot that is both in the vector and in the cloud counts once.
func TestSize(t *testing.T) {
	for s, want := range map[string]uint64{
		"1.2 / 1.2 1.4": 3, "- / none": 0, "1.2 / none": 2, "- / 1.2": 1, "1.2 / 1.4": 3, "1.2 / 1.3": 3, "1.5 / 1.3": 5, "1.5 / 1.3 1.5": 5, "1.2 3.7 / 2.1 1.3 1.5": 12, "1.2 / 1.1 1.2 1.3 1.4": 4, "1.2 / 2.1 2.2": 4, "- / 1.1 2.1 1.2": 3,
		"1.4294967295 / -": 4294967295, "1.4294967295 / 1.4294967295": 4294967295, "1.4294967294 / 1.4294967295": 4294967295, "1.4294967295 64.4294967295 / 2.1": 8589934591,
		// A context that is not valid has none.
		"2.1 1.1 / 1.2": 0, "1.2 1.2 / -": 0, "0.1 / -": 0, "1.2 / 1.4 1.3": 0, "1.2 / 1.4 1.4": 0, "- / 0.0": 0, "1.2 / 65.1": 0, "1.4294967296 / -": 0, "1.2 / 1.4294967296": 0, "1.-2 / -": 0, "1.2 2.0 / -": 0,
	} {
		if n := context.Size(ctx(s)); n != want {
			t.Errorf("Size(%s) = %d, want %d", s, n, want)
		}
	}
	all := api.Context{Vector: full(), Cloud: edgeDots()[:0]}
	for i := range all.Vector {
		all.Vector[i].Counter = 4294967295
	}
	if n := context.Size(all); n != 274877906880 {
		t.Errorf("all dots are %d", n)
	}
}

// P6.2
func TestSizeOfManyContexts(t *testing.T) {
	for _, c := range slices.Concat(small(), few(), valid(), long(), wrong()) {
		if n, want := context.Size(c), expectedSize(c); n != want {
			t.Fatalf("Size(%v) = %d, want %d", c, n, want)
		}
	}
}

// P6.2: as many dots as Size counts are found by asking for each one.
func TestSizeCountsWhatIsThere(t *testing.T) {
	for _, c := range slices.Concat(few(), valid()) {
		n := uint64(0)
		for replica := range 5 {
			for counter := range 8 {
				if context.Has(c, dotOf(replica, counter)) {
					n++
				}
			}
		}
		if size := context.Size(c); size != n {
			t.Fatalf("Size(%v) = %d, but it has %d dots", c, size, n)
		}
	}
}

// P6.2: valid or not; contexts with the same dots need not be equal.
func TestEqual(t *testing.T) {
	empty := api.Context{Vector: api.Vector{}, Cloud: []api.Dot{}}
	for _, c := range []struct {
		a, b api.Context
		want bool
	}{
		{api.Context{}, api.Context{}, true}, {api.Context{}, empty, true}, {empty, api.Context{}, true},
		{ctx("1.2 / 1.4"), ctx("1.2 / 1.4"), true}, {ctx("1.2 / 1.4"), ctx("1.2 / 1.5"), false}, {ctx("1.2 / 1.4"), ctx("1.3 / 1.4"), false}, {ctx("1.2 / 1.4"), ctx("2.2 / 1.4"), false}, {ctx("1.2 / 1.4"), ctx("1.2 / 2.4"), false}, {ctx("1.2 / 1.4"), ctx("1.2 / -"), false}, {ctx("1.2 / -"), ctx("1.2 / 1.4"), false}, {ctx("1.2 / 1.4"), ctx("- / 1.4"), false}, {ctx("- / 1.4"), ctx("1.2 / 1.4"), false}, {ctx("1.2 / 1.4"), ctx("1.2 / 1.4 1.6"), false}, {ctx("1.2 3.1 / 1.4"), ctx("1.2 / 1.4"), false},
		// The same dots, in other parts.
		{ctx("1.1 / -"), ctx("- / 1.1"), false}, {ctx("1.2 / 1.3"), ctx("1.3 / -"), false}, {ctx("1.2 / 1.2"), ctx("1.2 / -"), false}, {ctx("1.1 / 2.1"), ctx("2.1 / 1.1"), false},
		// Contexts that are not valid: the order counts, and how often a dot comes.
		{ctx("3.7 1.2 / -"), ctx("3.7 1.2 / -"), true}, {ctx("3.7 1.2 / -"), ctx("1.2 3.7 / -"), false}, {ctx("- / 1.4 1.3"), ctx("- / 1.4 1.3"), true}, {ctx("- / 1.4 1.3"), ctx("- / 1.3 1.4"), false}, {ctx("- / 1.3 1.3"), ctx("- / 1.3"), false}, {ctx("0.0 / 0.0"), ctx("0.0 / 0.0"), true}, {ctx("0.0 / -"), ctx("- / -"), false}, {ctx("- / 0.0"), ctx("- / -"), false}, {ctx("1.0 / -"), ctx("2.0 / -"), false}, {ctx("- / 65.1"), ctx("- / 66.1"), false}, {ctx("- / 1.-1"), ctx("- / 1.-1"), true},
	} {
		if is, back := context.Equal(c.a, c.b), context.Equal(c.b, c.a); is != c.want || back != c.want {
			t.Errorf("Equal(%v, %v) = %t, the other way round %t, want %t", c.a, c.b, is, back, c.want)
		}
	}
}

// P6.2
func TestEqualOfManyContexts(t *testing.T) {
	pairs(func(a, b api.Context) {
		want := slices.Equal(a.Vector, b.Vector) && slices.Equal(a.Cloud, b.Cloud)
		if is := context.Equal(a, b); is != want {
			t.Fatalf("Equal(%v, %v) = %t", a, b, is)
		}
	})
	for _, c := range slices.Concat(small(), long(), wrong()) {
		other := api.Context{Vector: slices.Clone(c.Vector), Cloud: slices.Clone(c.Cloud)}
		if !context.Equal(c, other) {
			t.Fatalf("%v is not equal to a copy", c)
		}
		for _, l := range [][]api.Dot{other.Vector, other.Cloud} {
			for i, d := range l {
				for _, changed := range []api.Dot{dotOf(d.Replica^1, d.Counter), dotOf(d.Replica, d.Counter^math.MinInt)} {
					l[i] = changed
					if context.Equal(c, other) || context.Equal(other, c) {
						t.Fatalf("%v and %v are equal", c, other)
					}
				}
				l[i] = d
			}
		}
	}
}
