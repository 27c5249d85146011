package dot_test

import (
	"math"
	"slices"
	"testing"

	"redpencil/api"
	"redpencil/dot"
)

// P4.2: the examples of the chapter, and some more.
func TestIsSet(t *testing.T) {
	for _, c := range []struct {
		l    []api.Dot
		want bool
	}{
		{dots(5, 6, 3, 7, 5, 7), true}, {dots(3, 7, 3, 7), false}, {nil, true}, {[]api.Dot{}, true},
		{dots(3, 7), true}, {dots(0, 0), true}, {dots(3, 7, 5, 6), false}, {dots(5, 7, 3, 7), false}, {dots(0, 0, 0, 0), false},
		// What is wrong may stand at the end alone, or between the first dot and the last one.
		{dots(5, 6, 3, 7, 5, 7, 5, 7), false}, {dots(5, 6, 3, 7, 5, 7, 5, 6), false}, {dots(5, 6, 5, 7, 3, 7, 5, 8), false}, {dots(5, 6, 3, 7, 3, 7, 5, 8), false}, {dots(5, 6, 5, 6, 3, 7, 5, 8), false}, {dots(5, 7, 5, 6, 3, 7, 5, 8), false},
		// Dots need not be valid.
		{dots(3, -7, -1, 0, 0, 0, 65, 0, -5, 1, 0, 1, 65, 1, 1, 4294967296), true}, {dots(0, 0, -1, 0), false}, {dots(1, 0, 1, -1), false}, {dots(65, 1, 64, 1), false}, {dots(65, 1, 65, 1), false},
		{dots(math.MaxInt, math.MinInt, math.MinInt, math.MaxInt), true}, {dots(math.MinInt, math.MaxInt, math.MaxInt, math.MinInt), false},
	} {
		if is := dot.IsSet(c.l); is != c.want {
			t.Errorf("IsSet(%v) = %t, want %t", c.l, is, c.want)
		}
	}
}

// P4.2: a list is a set just if it is the set of itself.
func TestIsSetOfManyLists(t *testing.T) {
	sets := 0
	for _, l := range append(small(), lists()...) {
		want := slices.Equal(setOf(l), l)
		if want {
			sets++
		}
		if is := dot.IsSet(l); is != want {
			t.Fatalf("IsSet(%v) = %t, want %t", l, is, want)
		}
	}
	if sets < 20 {
		t.Errorf("only %d lists were sets", sets)
	}
}

// P4.2: a set is no longer one if a dot is there twice, or two of them change places, wherever this is.
func TestIsSetOfASpoiltSet(t *testing.T) {
	set := rising(50, 7)
	for i := range set {
		if twice := slices.Insert(slices.Clone(set), i, set[i]); dot.IsSet(twice) {
			t.Errorf("IsSet with the dot %d twice", i)
		}
		for j := range i {
			l := slices.Clone(set)
			l[i], l[j] = l[j], l[i]
			if dot.IsSet(l) {
				t.Errorf("IsSet with the dots %d and %d in each other's place", j, i)
			}
		}
	}
}

// P4.2: the example of the chapter, and some more.
func TestSet(t *testing.T) {
	for _, c := range []struct{ l, want []api.Dot }{
		{dots(5, 7, 3, 7, 5, 6, 3, 7), dots(5, 6, 3, 7, 5, 7)},
		{nil, nil}, {[]api.Dot{}, nil}, {dots(3, 7), dots(3, 7)}, {dots(3, 7, 3, 7, 3, 7), dots(3, 7)}, {dots(5, 6, 3, 7, 5, 7), dots(5, 6, 3, 7, 5, 7)}, {dots(5, 7, 3, 7, 5, 6), dots(5, 6, 3, 7, 5, 7)},
		{dots(1, 10, 1, 9, 10, 1, 9, 1), dots(9, 1, 10, 1, 1, 9, 1, 10)},
		// Dots need not be valid, and none of these is left out.
		{dots(0, 0), dots(0, 0)}, {dots(0, 0, 0, 0), dots(0, 0)}, {dots(65, 1, 0, 0, 64, 1, 0, 0, 1, -1, -1, 1, 65, 1), dots(1, -1, 0, 0, -1, 1, 64, 1, 65, 1)},
		{dots(math.MinInt, math.MaxInt, math.MaxInt, math.MinInt, 1, 4294967296), dots(math.MaxInt, math.MinInt, 1, 4294967296, math.MinInt, math.MaxInt)},
	} {
		if l := dot.Set(c.l); !slices.Equal(l, c.want) {
			t.Errorf("Set(%v) = %v, want %v", c.l, l, c.want)
		}
	}
}

// P4.2
func TestSetOfManyLists(t *testing.T) {
	for _, l := range append(small(), lists()...) {
		if set, want := dot.Set(l), setOf(l); !slices.Equal(set, want) {
			t.Fatalf("Set(%v) = %v, want %v", l, set, want)
		}
	}
}

// P4.2: the example of the chapter, and some more; the list need not be in order.
func TestHas(t *testing.T) {
	for _, c := range []struct {
		l    []api.Dot
		d    api.Dot
		want bool
	}{
		{dots(5, 7, 3, 7), dotOf(3, 7), true}, {dots(5, 7, 3, 7), dotOf(5, 7), true}, {dots(3, 7, 5, 7), dotOf(5, 7), true},
		{dots(5, 7, 3, 7), dotOf(5, 6), false}, {dots(5, 7, 3, 7), dotOf(7, 3), false}, {dots(5, 7, 3, 7), dotOf(3, 8), false}, {dots(5, 7, 3, 7), dotOf(4, 7), false}, {dots(5, 7, 3, 6), dotOf(5, 6), false},
		{nil, dotOf(3, 7), false}, {nil, api.Dot{}, false}, {dots(3, 7), api.Dot{}, false}, {dots(3, 7, 0, 0), api.Dot{}, true}, {dots(0, 0), dotOf(0, 1), false},
		{dots(9, 9, 5, 5, 7, 7, 1, 1, 3, 3), dotOf(9, 9), true}, {dots(9, 9, 5, 5, 7, 7, 1, 1, 3, 3), dotOf(3, 3), true}, {dots(9, 9, 5, 5, 7, 7, 1, 1, 3, 3), dotOf(2, 2), false},
		{dots(65, 1, 1, 0), dotOf(65, 1), true}, {dots(65, 1, 1, 0), dotOf(1, 0), true}, {dots(65, 1, 1, 0), dotOf(1, 1), false}, {dots(-1, -1), dotOf(-1, -1), true},
		{dots(1, 1), dotOf(1, 1<<32+1), false}, {dots(1, 1), dotOf(1<<32+1, 1), false}, {dots(math.MinInt, math.MaxInt), dotOf(math.MinInt, math.MaxInt), true},
	} {
		if is := dot.Has(c.l, c.d); is != c.want {
			t.Errorf("Has(%v, %v) = %t, want %t", c.l, c.d, is, c.want)
		}
	}
}

// P4.2
func TestHasOfManyLists(t *testing.T) {
	asked := append(edges(), mixed(50)...)
	for _, l := range append(small(), lists()...) {
		for _, d := range append(asked, l...) {
			if is, want := dot.Has(l, d), in(l, d); is != want {
				t.Fatalf("Has(%v, %v) = %t, want %t", l, d, is, want)
			}
		}
	}
}

// P4.3: the examples of the chapter, and some more.
func TestUnionAndMinus(t *testing.T) {
	for _, c := range []struct{ a, b, union, minus []api.Dot }{
		{dots(5, 7, 3, 7), dots(5, 6, 3, 7), dots(5, 6, 3, 7, 5, 7), dots(5, 7)},
		{nil, nil, nil, nil}, {[]api.Dot{}, nil, nil, nil}, {nil, []api.Dot{}, nil, nil},
		{dots(5, 7, 3, 7), nil, dots(3, 7, 5, 7), dots(3, 7, 5, 7)}, {nil, dots(5, 7, 3, 7), dots(3, 7, 5, 7), nil},
		{dots(3, 7), dots(3, 7), dots(3, 7), nil}, {dots(3, 7), dots(5, 7), dots(3, 7, 5, 7), dots(3, 7)}, {dots(5, 7), dots(3, 7), dots(3, 7, 5, 7), dots(5, 7)},
		// What is there twice in one of the lists is there once in the result, or not at all.
		{dots(5, 7, 3, 7, 5, 7), nil, dots(3, 7, 5, 7), dots(3, 7, 5, 7)}, {nil, dots(5, 7, 3, 7, 5, 7), dots(3, 7, 5, 7), nil}, {dots(5, 7, 3, 7, 5, 7), dots(5, 7), dots(3, 7, 5, 7), dots(3, 7)}, {dots(5, 7), dots(5, 7, 3, 7, 5, 7), dots(3, 7, 5, 7), nil},
		// The second list is in no order.
		{dots(1, 1, 2, 2, 3, 3, 4, 4), dots(4, 4, 2, 2, 5, 5, 1, 1), dots(1, 1, 2, 2, 3, 3, 4, 4, 5, 5), dots(3, 3)},
		// A dot goes if it is there itself, not if its replica or its counter is.
		{dots(3, 7, 5, 6), dots(3, 6, 5, 7), dots(3, 6, 5, 6, 3, 7, 5, 7), dots(5, 6, 3, 7)}, {dots(3, 7), dots(7, 3), dots(7, 3, 3, 7), dots(3, 7)},
		// Dots need not be valid.
		{dots(0, 0), dots(0, 0), dots(0, 0), nil}, {dots(1, 1), dots(0, 0), dots(0, 0, 1, 1), dots(1, 1)}, {dots(0, 0, 1, 1), dots(1, 1), dots(0, 0, 1, 1), dots(0, 0)},
		{dots(65, 1, -1, -1), dots(65, 1, 1, 4294967296), dots(-1, -1, 65, 1, 1, 4294967296), dots(-1, -1)}, {dots(1, 1), dots(1, 1<<32+1, 1<<32+1, 1), dots(1, 1, 1<<32+1, 1, 1, 1<<32+1), dots(1, 1)},
	} {
		if l := dot.Union(c.a, c.b); !slices.Equal(l, c.union) {
			t.Errorf("Union(%v, %v) = %v, want %v", c.a, c.b, l, c.union)
		}
		if l := dot.Minus(c.a, c.b); !slices.Equal(l, c.minus) {
			t.Errorf("Minus(%v, %v) = %v, want %v", c.a, c.b, l, c.minus)
		}
	}
}

// pairs calls f with every two small lists, and with every two others.
func pairs(f func(a, b []api.Dot)) {
	for _, all := range [][][]api.Dot{small(), lists()} {
		for _, a := range all {
			for _, b := range all {
				f(a, b)
			}
		}
	}
}

// P4.3
func TestUnionAndMinusOfManyLists(t *testing.T) {
	pairs(func(a, b []api.Dot) {
		if l, want := dot.Union(a, b), unionOf(a, b); !slices.Equal(l, want) {
			t.Fatalf("Union(%v, %v) = %v, want %v", a, b, l, want)
		}
		if l, want := dot.Minus(a, b), minusOf(a, b); !slices.Equal(l, want) {
			t.Fatalf("Minus(%v, %v) = %v, want %v", a, b, l, want)
		}
	})
}

// P4.2 and P4.3: lists that are so long that a look at the whole list for each dot would not end in time.
func TestLongLists(t *testing.T) {
	const n = 1 << 18
	a := rising(n, 5)
	odd, even := []api.Dot{}, []api.Dot{}
	for i, d := range a {
		if i%2 == 0 {
			even = append(even, d)
		} else {
			odd = append(odd, d)
		}
	}
	down := append(slices.Clone(even), odd...)
	slices.Reverse(down)
	if l := dot.Set(append(down, a...)); !slices.Equal(l, a) || !dot.IsSet(a) || dot.IsSet(down) {
		t.Errorf("Set of %d dots has %d", 2*n, len(l))
	}
	if l := dot.Union(odd, down); !slices.Equal(l, a) {
		t.Errorf("Union has %d dots, want %d", len(l), n)
	}
	if l := dot.Minus(down, even); !slices.Equal(l, odd) {
		t.Errorf("Minus has %d dots, want %d", len(l), n/2)
	}
	if l := dot.Minus(even, down); len(l) != 0 {
		t.Errorf("Minus has %d dots", len(l))
	}
}
