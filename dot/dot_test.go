package dot_test

import (
	"math"
	"testing"

	"redpencil/api"
	"redpencil/dot"
)

// P4.1: the examples of the chapter, and the ends of what is valid.
func TestValid(t *testing.T) {
	for _, c := range []struct {
		d           api.Dot
		valid, root bool
	}{
		{dotOf(64, 4294967295), true, false}, {dotOf(65, 1), false, false}, {dotOf(1, 0), false, false}, {api.Dot{}, false, true},
		{dotOf(1, 1), true, false}, {dotOf(3, 7), true, false}, {dotOf(64, 1), true, false}, {dotOf(1, 4294967295), true, false}, {dotOf(1, 65), true, false},
		{dotOf(0, 1), false, false}, {dotOf(0, 4294967295), false, false}, {dotOf(64, 0), false, false}, {dotOf(1, 4294967296), false, false}, {dotOf(64, 4294967297), false, false},
		{dotOf(-1, 1), false, false}, {dotOf(1, -1), false, false}, {dotOf(-1, -1), false, false}, {dotOf(-3, -7), false, false}, {dotOf(-1, 0), false, false}, {dotOf(0, -1), false, false},
		{dotOf(65, 4294967296), false, false}, {dotOf(4294967297, 1), false, false}, {dotOf(4294967296, 4294967296), false, false},
		{dotOf(math.MaxInt, math.MaxInt), false, false}, {dotOf(math.MinInt, math.MinInt), false, false}, {dotOf(1, math.MinInt), false, false}, {dotOf(math.MinInt, 1), false, false},
	} {
		if valid, root := dot.Valid(c.d), dot.Root(c.d); valid != c.valid || root != c.root {
			t.Errorf("Valid(%v) = %t and Root = %t, want %t and %t", c.d, valid, root, c.valid, c.root)
		}
	}
}

// P4.1
func TestValidAtTheEdges(t *testing.T) {
	for _, d := range edges() {
		if dot.Valid(d) != isValid(d) || dot.Root(d) != isRoot(d) {
			t.Errorf("Valid(%v) = %t and Root = %t", d, dot.Valid(d), dot.Root(d))
		}
	}
}

// P4.1: each replica with some counters.
func TestValidOfEveryReplica(t *testing.T) {
	for replica := -10; replica < 300; replica++ {
		for _, counter := range []int{-1, 0, 1, 2, 64, 65, 100000, 4294967295, 4294967296} {
			d := dotOf(replica, counter)
			if dot.Valid(d) != isValid(d) || dot.Root(d) != isRoot(d) {
				t.Errorf("Valid(%v) = %t and Root = %t", d, dot.Valid(d), dot.Root(d))
			}
		}
	}
}

// P4.1: the examples of the chapter, and some more.
func TestCompare(t *testing.T) {
	for _, c := range []struct {
		a, b api.Dot
		want int
	}{
		{dotOf(3, 7), dotOf(5, 6), 1}, {dotOf(3, 7), dotOf(5, 7), -1}, {dotOf(3, 7), dotOf(3, 7), 0}, {api.Dot{}, dotOf(1, 1), -1},
		{dotOf(5, 6), dotOf(3, 7), -1}, {dotOf(5, 7), dotOf(3, 7), 1}, {dotOf(1, 1), api.Dot{}, 1}, {api.Dot{}, api.Dot{}, 0},
		{dotOf(64, 1), dotOf(1, 2), -1}, {dotOf(1, 2), dotOf(1, 10), -1}, {dotOf(2, 1), dotOf(10, 1), -1}, {dotOf(1, 4294967295), dotOf(64, 4294967294), 1},
		// Dots that are not valid stand in the same order.
		{dotOf(1, -1), api.Dot{}, -1}, {dotOf(-1, 0), api.Dot{}, -1}, {dotOf(65, 1), dotOf(64, 1), 1}, {dotOf(-1, -1), dotOf(-1, -1), 0},
		{dotOf(1, math.MinInt), dotOf(1, math.MaxInt), -1}, {dotOf(math.MaxInt, 1), dotOf(math.MinInt, 1), 1}, {dotOf(math.MaxInt, math.MinInt), dotOf(math.MinInt, math.MaxInt), -1},
	} {
		if n := dot.Compare(c.a, c.b); n != c.want {
			t.Errorf("Compare(%v, %v) = %d, want %d", c.a, c.b, n, c.want)
		}
	}
}

// P4.1
func TestCompareAtTheEdges(t *testing.T) {
	for _, a := range edges() {
		for _, b := range edges() {
			if n, want := dot.Compare(a, b), order(a, b); n != want {
				t.Errorf("Compare(%v, %v) = %d, want %d", a, b, n, want)
			}
		}
	}
}
