package vector_test

import (
	"math"
	"slices"
	"testing"

	"redpencil/api"
	"redpencil/vector"
)

// P5.1: the vectors of the chapter's examples, and some more.
func TestValid(t *testing.T) {
	for _, c := range []struct {
		v    api.Vector
		want bool
	}{
		{vec(1, 2, 3, 7), true}, {vec(3, 7, 1, 2), false}, {nil, true}, {api.Vector{}, true}, {vec(1, 2), true}, {vec(0, 1), false},
		{vec(64, 4294967295), true}, {vec(1, 1, 2, 1, 3, 1), true}, {vec(1, 9, 2, 8, 3, 7), true}, {vec(1, 7, 2, 7, 64, 7), true}, {vec(1, 4294967295, 64, 4294967295), true},
		// Replicas that come twice, one behind the other or not.
		{vec(1, 2, 1, 2), false}, {vec(1, 2, 1, 3), false}, {vec(1, 3, 1, 2), false}, {vec(1, 2, 3, 7, 1, 3), false}, {vec(1, 2, 3, 7, 3, 8), false},
		// Replicas out of order, at the front or at the end; in the order of dots those of vectors need not be.
		{vec(2, 1, 1, 2), false}, {vec(2, 1, 1, 2, 3, 3), false}, {vec(1, 1, 3, 2, 2, 3), false}, {vec(1, 1, 64, 2, 63, 3), false}, {vec(1, 1, 3, 1, 2, 1, 4, 1), false},
		// Dots that are not valid, wherever they stand.
		{vec(0, 0), false}, {vec(1, 0), false}, {vec(65, 1), false}, {vec(1, 4294967296), false}, {vec(-1, 1), false}, {vec(1, -1), false}, {vec(-2, -1), false},
		{vec(0, 0, 1, 1), false}, {vec(0, 1, 1, 1), false}, {vec(-1, 1, 1, 1), false}, {vec(1, 1, 65, 1), false}, {vec(1, 1, 2, 0), false}, {vec(1, 1, 2, 0, 3, 1), false}, {vec(1, 1, 2, 4294967296, 3, 1), false}, {vec(1, 1, 0, 0), false},
		{vec(math.MinInt, 1), false}, {vec(math.MaxInt, 1), false}, {vec(1, math.MinInt), false}, {vec(1, math.MaxInt), false},
	} {
		if is := vector.Valid(c.v); is != c.want {
			t.Errorf("Valid(%v) = %t, want %t", c.v, is, c.want)
		}
	}
}

// P5.1
func TestValidOfManyVectors(t *testing.T) {
	for _, v := range append(small(), append(valid(), long()...)...) {
		if is, want := vector.Valid(v), isValid(v); is != want {
			t.Fatalf("Valid(%v) = %t, want %t", v, is, want)
		}
	}
	for _, v := range append(valid(), long()...) {
		if !vector.Valid(v) {
			t.Fatalf("%v is not valid", v)
		}
	}
	for _, v := range wrong() {
		if vector.Valid(v) {
			t.Fatalf("%v is valid", v)
		}
	}
}

// P5.1: each dot alone, with the numbers where something changes.
func TestValidAtTheEdges(t *testing.T) {
	for _, d := range edgeDots() {
		if is := vector.Valid(api.Vector{d}); is != isDot(d) {
			t.Errorf("Valid(%v) = %t", d, is)
		}
		for _, e := range edgeDots() {
			v := api.Vector{d, e}
			if is, want := vector.Valid(v), isValid(v); is != want {
				t.Fatalf("Valid(%v) = %t, want %t", v, is, want)
			}
		}
	}
}

// P5.1: the examples of the chapter, and some more; the vector need not be valid.
func TestGet(t *testing.T) {
	for _, c := range []struct {
		v             api.Vector
		replica, want int
	}{
		{vec(1, 2, 3, 7), 3, 7}, {vec(1, 2, 3, 7), 2, 0}, {vec(1, 2, 3, 7), 1, 2}, {vec(1, 2, 3, 7), 4, 0}, {vec(1, 2, 3, 7), 7, 0},
		{nil, 1, 0}, {api.Vector{}, 1, 0}, {nil, 0, 0}, {vec(1, 2), 0, 0}, {vec(1, 2), -1, 0}, {vec(1, 2), 65, 0}, {vec(1, 2), math.MaxInt, 0}, {vec(1, 2), math.MinInt, 0}, {vec(1, 2), 1<<32 + 1, 0}, {vec(64, 4294967295), 64, 4294967295},
		// Of a replica that comes several times the first dot counts, whichever counter it has.
		{vec(1, 2, 1, 9), 1, 2}, {vec(1, 9, 1, 2), 1, 9}, {vec(1, 2, 3, 7, 1, 9), 1, 2}, {vec(1, 0, 1, 9), 1, 0}, {vec(1, -5, 1, 9), 1, -5}, {vec(1, 9, 1, 0), 1, 9},
		// The replicas are out of order.
		{vec(3, 7, 1, 2), 1, 2}, {vec(3, 7, 1, 2), 3, 7}, {vec(3, 7, 1, 2), 2, 0}, {vec(9, 1, 5, 2, 7, 3), 5, 2}, {vec(9, 1, 5, 2, 7, 3), 7, 3}, {vec(9, 1, 5, 2, 7, 3), 9, 1},
		// Dots that are not valid count like the others.
		{vec(0, 5), 0, 5}, {vec(65, 5), 65, 5}, {vec(-1, 5), -1, 5}, {vec(1, -5), 1, -5}, {vec(1, 4294967296), 1, 4294967296}, {vec(0, 0, 1, 2), 1, 2}, {vec(1, math.MaxInt), 1, math.MaxInt}, {vec(math.MinInt, math.MinInt), math.MinInt, math.MinInt}, {vec(1, 2, 65, 0, 3, 7), 3, 7},
	} {
		if n := vector.Get(c.v, c.replica); n != c.want {
			t.Errorf("Get(%v, %d) = %d, want %d", c.v, c.replica, n, c.want)
		}
	}
}

// P5.1: the examples of the chapter, and some more; neither the vector nor the dot need be valid.
func TestHas(t *testing.T) {
	for _, c := range []struct {
		v    api.Vector
		d    api.Dot
		want bool
	}{
		{vec(1, 2, 3, 7), dotOf(3, 7), true}, {vec(1, 2, 3, 7), dotOf(3, 8), false}, {vec(1, 2, 3, 7), dotOf(1, 0), false},
		{vec(1, 2, 3, 7), dotOf(3, 1), true}, {vec(1, 2, 3, 7), dotOf(3, 6), true}, {vec(1, 2, 3, 7), dotOf(1, 1), true}, {vec(1, 2, 3, 7), dotOf(1, 2), true}, {vec(1, 2, 3, 7), dotOf(1, 3), false}, {vec(1, 2, 3, 7), dotOf(2, 1), false}, {vec(1, 2, 3, 7), dotOf(7, 3), false},
		{nil, dotOf(1, 1), false}, {nil, api.Dot{}, false}, {api.Vector{}, api.Dot{}, false}, {vec(1, 2), api.Dot{}, false}, {vec(1, 2), dotOf(1, -1), false}, {vec(1, 2), dotOf(0, 1), false}, {vec(1, 2), dotOf(65, 1), false}, {vec(1, 2), dotOf(-1, 1), false},
		{vec(64, 4294967295), dotOf(64, 4294967295), true}, {vec(64, 4294967295), dotOf(64, 4294967296), false}, {vec(64, 4294967294), dotOf(64, 4294967295), false}, {vec(64, 1), dotOf(64, 1<<32+1), false}, {vec(1, 1), dotOf(1<<32+1, 1), false},
		// Of a replica that comes several times the first dot counts.
		{vec(1, 2, 1, 9), dotOf(1, 3), false}, {vec(1, 9, 1, 2), dotOf(1, 3), true}, {vec(1, 0, 1, 9), dotOf(1, 1), false}, {vec(1, -5, 1, 9), dotOf(1, 1), false}, {vec(1, 2, 3, 7, 1, 9), dotOf(1, 9), false},
		// The replicas are out of order.
		{vec(3, 7, 1, 2), dotOf(1, 2), true}, {vec(3, 7, 1, 2), dotOf(3, 7), true}, {vec(3, 7, 1, 2), dotOf(2, 1), false}, {vec(3, 7, 1, 2), dotOf(1, 7), false},
		// A dot that is not valid is in no vector, not even in one that has it.
		{vec(0, 0), api.Dot{}, false}, {vec(0, 5), dotOf(0, 5), false}, {vec(0, 5), dotOf(0, 1), false}, {vec(65, 5), dotOf(65, 5), false}, {vec(-1, 5), dotOf(-1, 5), false}, {vec(1, 0), dotOf(1, 0), false}, {vec(1, -5), dotOf(1, -5), false}, {vec(1, -5), dotOf(1, -6), false}, {vec(1, 4294967296), dotOf(1, 4294967296), false},
		// A vector that is not valid still has the valid dots up to its counters.
		{vec(1, 4294967296), dotOf(1, 4294967295), true}, {vec(1, math.MaxInt), dotOf(1, 1), true}, {vec(0, 0, 1, 2), dotOf(1, 2), true}, {vec(65, 1, 1, 2), dotOf(1, 2), true}, {vec(1, math.MinInt), dotOf(1, 1), false},
	} {
		if is := vector.Has(c.v, c.d); is != c.want {
			t.Errorf("Has(%v, %v) = %t, want %t", c.v, c.d, is, c.want)
		}
	}
}

// P5.1
func TestGetAndHasOfManyVectors(t *testing.T) {
	l := slices.Concat(small(), valid(), long(), wrong()[:30])
	for _, d := range edgeDots() {
		l = append(l, api.Vector{d}, api.Vector{d, dotOf(d.Replica, 5)}, api.Vector{dotOf(d.Replica, 5), d})
	}
	for _, v := range l {
		for _, d := range append(edgeDots(), v...) {
			if n, want := vector.Get(v, d.Replica), counterOf(v, d.Replica); n != want {
				t.Fatalf("Get(%v, %d) = %d, want %d", v, d.Replica, n, want)
			}
			if is, want := vector.Has(v, d), isIn(v, d); is != want {
				t.Fatalf("Has(%v, %v) = %t, want %t", v, d, is, want)
			}
		}
	}
}

// P5.1: a valid vector has all dots of a replica from the counter 1 up to one, and no others.
func TestAVectorHasBeginnings(t *testing.T) {
	for _, v := range valid() {
		for replica := -1; replica < 70; replica++ {
			for counter := -2; counter < 10; counter++ {
				want := counter >= 1 && counter <= counterOf(v, replica)
				if is := vector.Has(v, dotOf(replica, counter)); is != want {
					t.Fatalf("Has(%v, %d.%d) = %t", v, replica, counter, is)
				}
			}
		}
	}
}
