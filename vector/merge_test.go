package vector_test

import (
	"math"
	"slices"
	"testing"

	"redpencil/api"
	"redpencil/vector"
)

// same reports whether a result is what is wanted; whether a vector without dots is nil or empty makes no difference.
func same(v api.Vector, e api.Errno, want api.Vector, err api.Errno) bool {
	return slices.Equal(v, want) && e == err
}

// P5.2: the examples of the chapter, and some more.
func TestOf(t *testing.T) {
	for _, c := range []struct {
		l    []api.Dot
		want api.Vector
	}{
		{vec(3, 7, 1, 2, 3, 4), vec(1, 2, 3, 7)}, {nil, nil}, {[]api.Dot{}, nil},
		{vec(3, 7), vec(3, 7)}, {vec(3, 7, 3, 7), vec(3, 7)}, {vec(3, 4, 3, 7), vec(3, 7)}, {vec(3, 7, 3, 4), vec(3, 7)}, {vec(3, 4, 3, 9, 3, 7), vec(3, 9)}, {vec(3, 4, 1, 2, 3, 9), vec(1, 2, 3, 9)},
		{vec(64, 1, 1, 1), vec(1, 1, 64, 1)}, {vec(64, 4294967295, 1, 4294967295, 64, 1), vec(1, 4294967295, 64, 4294967295)}, {vec(3, 1, 2, 2, 1, 3), vec(1, 3, 2, 2, 3, 1)}, {vec(1, 2, 3, 7), vec(1, 2, 3, 7)},
	} {
		if v, e := vector.Of(c.l); !same(v, e, c.want, api.OK) {
			t.Errorf("Of(%v) = %v, %d, want %v", c.l, v, e, c.want)
		}
	}
}

// P5.2: an example of the chapter, and some more; what is wrong may stand anywhere in the list.
func TestOfDotsThatAreNotValid(t *testing.T) {
	for _, d := range edgeDots() {
		if isDot(d) {
			continue
		}
		for _, l := range [][]api.Dot{{d}, {d, dotOf(1, 2)}, {dotOf(1, 2), d}, {dotOf(1, 2), d, dotOf(3, 7)}, {d, d}, {dotOf(1, 2), dotOf(1, 2), dotOf(1, 2), d}, append(full(), d), append(api.Vector{d}, full()...)} {
			if v, e := vector.Of(l); !same(v, e, nil, api.ErrArg) {
				t.Errorf("Of(%v) = %v, %d", l, v, e)
			}
		}
	}
}

// P5.2: lists in any order, with replicas any number of times.
func TestOfManyLists(t *testing.T) {
	l := slices.Concat(small(), valid(), long(), wrong())
	for _, v := range slices.Clone(l) {
		back := slices.Clone(v)
		slices.Reverse(back)
		l = append(l, back, append(back, v...))
	}
	for _, v := range l {
		want, err := expectedOf(v)
		if got, e := vector.Of(v); !same(got, e, want, err) {
			t.Fatalf("Of(%v) = %v, %d, want %v, %d", v, got, e, want, err)
		}
	}
}

// P5.2: what Of returns has all dots of the list, and whatever has them all has no fewer dots.
func TestOfIsTheSmallest(t *testing.T) {
	for _, l := range small() {
		v, e := vector.Of(l)
		if e != api.OK {
			continue
		}
		if !vector.Valid(v) {
			t.Fatalf("Of(%v) = %v is not valid", l, v)
		}
		has := func(v api.Vector) bool {
			return !slices.ContainsFunc(l, func(d api.Dot) bool { return !vector.Has(v, d) })
		}
		if !has(v) {
			t.Fatalf("Of(%v) = %v lacks some of them", l, v)
		}
		for i := range v {
			less := slices.Clone(v)
			if less[i].Counter--; less[i].Counter == 0 {
				less = slices.Delete(less, i, i+1)
			}
			if has(less) {
				t.Fatalf("Of(%v) = %v, but %v has them, too", l, v, less)
			}
		}
	}
}

// P5.2: a list that is so long that a look at all of it for each dot would not end in time.
func TestOfALongList(t *testing.T) {
	const n = 1 << 21
	l := make([]api.Dot, n)
	for i := range l {
		l[i] = dotOf(64-i%64, (i*7919)%n+1)
	}
	want, _ := expectedOf(l)
	if v, e := vector.Of(l); !same(v, e, want, api.OK) || len(v) != 64 {
		t.Errorf("Of has %d dots, %d", len(v), e)
	}
	l[n-1].Counter = 0
	if v, e := vector.Of(l); !same(v, e, nil, api.ErrArg) {
		t.Errorf("Of with a dot that is not valid at the end has %d dots, %d", len(v), e)
	}
}

// P5.2: the examples of the chapter, and some more.
func TestRaise(t *testing.T) {
	for _, c := range []struct {
		v    api.Vector
		d    api.Dot
		want api.Vector
		err  api.Errno
	}{
		{vec(1, 2, 3, 7), dotOf(2, 5), vec(1, 2, 2, 5, 3, 7), api.OK}, {vec(1, 2, 3, 7), dotOf(3, 5), vec(1, 2, 3, 7), api.OK},
		{vec(1, 2, 3, 7), dotOf(3, 7), vec(1, 2, 3, 7), api.OK}, {vec(1, 2, 3, 7), dotOf(3, 8), vec(1, 2, 3, 8), api.OK}, {vec(1, 2, 3, 7), dotOf(3, 4294967295), vec(1, 2, 3, 4294967295), api.OK}, {vec(1, 2, 3, 7), dotOf(1, 9), vec(1, 9, 3, 7), api.OK},
		{vec(2, 2, 3, 7), dotOf(1, 1), vec(1, 1, 2, 2, 3, 7), api.OK}, {vec(1, 2, 3, 7), dotOf(64, 1), vec(1, 2, 3, 7, 64, 1), api.OK}, {nil, dotOf(3, 7), vec(3, 7), api.OK}, {api.Vector{}, dotOf(64, 4294967295), vec(64, 4294967295), api.OK},
		// Dots that are not valid, also such that would change nothing.
		{vec(1, 2, 3, 7), dotOf(1, 0), nil, api.ErrArg}, {vec(1, 2, 3, 7), dotOf(3, -1), nil, api.ErrArg}, {vec(1, 2, 3, 7), dotOf(65, 1), nil, api.ErrArg}, {vec(1, 2, 3, 7), dotOf(0, 1), nil, api.ErrArg}, {vec(1, 2, 3, 7), dotOf(3, 4294967296), nil, api.ErrArg}, {vec(1, 2, 3, 7), api.Dot{}, nil, api.ErrArg}, {nil, api.Dot{}, nil, api.ErrArg}, {nil, dotOf(-1, 1), nil, api.ErrArg},
		{vec(1, 2), dotOf(math.MaxInt, 1), nil, api.ErrArg}, {vec(1, 2), dotOf(1, math.MinInt), nil, api.ErrArg},
		// Vectors that are not valid, also if the dot would make up for what is wrong.
		{vec(3, 7, 1, 2), dotOf(2, 5), nil, api.ErrArg}, {vec(1, 2, 1, 3), dotOf(2, 5), nil, api.ErrArg}, {vec(1, 2, 1, 2), dotOf(1, 2), nil, api.ErrArg}, {vec(1, 0), dotOf(1, 5), nil, api.ErrArg}, {vec(0, 0), dotOf(1, 5), nil, api.ErrArg}, {vec(1, 2, 65, 1), dotOf(2, 5), nil, api.ErrArg}, {vec(1, 4294967296), dotOf(1, 5), nil, api.ErrArg}, {vec(3, 7, 1, 2), dotOf(1, 0), nil, api.ErrArg},
	} {
		if v, e := vector.Raise(c.v, c.d); !same(v, e, c.want, c.err) {
			t.Errorf("Raise(%v, %v) = %v, %d, want %v, %d", c.v, c.d, v, e, c.want, c.err)
		}
	}
}

// P5.2
func TestRaiseOfManyVectors(t *testing.T) {
	for _, v := range slices.Concat(small(), valid(), long(), wrong()[:60]) {
		for _, d := range append(edgeDots(), v...) {
			want, err := expectedRaise(v, d)
			if got, e := vector.Raise(v, d); !same(got, e, want, err) {
				t.Fatalf("Raise(%v, %v) = %v, %d, want %v, %d", v, d, got, e, want, err)
			}
		}
	}
}

// P5.2: the examples of the chapter, and some more.
func TestMerge(t *testing.T) {
	for _, c := range []struct {
		a, b, want api.Vector
		err        api.Errno
	}{
		{vec(1, 2, 3, 7), vec(1, 4, 2, 1), vec(1, 4, 2, 1, 3, 7), api.OK}, {vec(3, 7, 1, 2), nil, nil, api.ErrArg},
		{nil, nil, nil, api.OK}, {api.Vector{}, nil, nil, api.OK}, {vec(1, 2, 3, 7), nil, vec(1, 2, 3, 7), api.OK}, {nil, vec(1, 2, 3, 7), vec(1, 2, 3, 7), api.OK}, {vec(1, 2), vec(1, 2), vec(1, 2), api.OK},
		{vec(1, 2), vec(3, 7), vec(1, 2, 3, 7), api.OK}, {vec(3, 7), vec(1, 2), vec(1, 2, 3, 7), api.OK}, {vec(1, 9, 3, 1), vec(1, 1, 3, 9), vec(1, 9, 3, 9), api.OK}, {vec(1, 1, 3, 3), vec(2, 2, 4, 4), vec(1, 1, 2, 2, 3, 3, 4, 4), api.OK}, {vec(1, 4294967295), vec(1, 1, 64, 4294967295), vec(1, 4294967295, 64, 4294967295), api.OK},
		// One of both is not valid, or both are not; none of this is mended by the other one.
		{nil, vec(3, 7, 1, 2), nil, api.ErrArg}, {vec(1, 2), vec(3, 7, 1, 2), nil, api.ErrArg}, {vec(3, 7, 1, 2), vec(3, 7, 1, 2), nil, api.ErrArg}, {vec(1, 2, 1, 3), vec(1, 9), nil, api.ErrArg}, {vec(1, 9), vec(1, 2, 1, 2), nil, api.ErrArg}, {vec(1, 0), vec(1, 9), nil, api.ErrArg}, {vec(1, 9), vec(0, 0), nil, api.ErrArg}, {vec(65, 1), nil, nil, api.ErrArg}, {nil, vec(1, 4294967296), nil, api.ErrArg}, {vec(1, -1), vec(-1, 1), nil, api.ErrArg},
	} {
		if v, e := vector.Merge(c.a, c.b); !same(v, e, c.want, c.err) {
			t.Errorf("Merge(%v, %v) = %v, %d, want %v, %d", c.a, c.b, v, e, c.want, c.err)
		}
	}
}

// P5.3: the examples of the chapter, and some more.
func TestOrder(t *testing.T) {
	for _, c := range []struct {
		a, b api.Vector
		want int
		err  api.Errno
	}{
		{vec(1, 2), vec(1, 2, 3, 7), -1, api.OK}, {vec(1, 2, 3, 7), vec(1, 2), 1, api.OK}, {vec(1, 2), vec(3, 7), 2, api.OK}, {nil, nil, 0, api.OK},
		{nil, api.Vector{}, 0, api.OK}, {vec(1, 2, 3, 7), vec(1, 2, 3, 7), 0, api.OK}, {nil, vec(1, 1), -1, api.OK}, {vec(1, 1), nil, 1, api.OK}, {vec(3, 7), vec(1, 2), 2, api.OK},
		{vec(1, 2), vec(1, 3), -1, api.OK}, {vec(1, 3), vec(1, 2), 1, api.OK}, {vec(1, 2, 3, 7), vec(1, 3, 3, 7), -1, api.OK}, {vec(1, 2, 3, 7), vec(1, 2, 3, 6), 1, api.OK}, {vec(1, 2, 3, 7), vec(1, 3, 3, 6), 2, api.OK}, {vec(1, 3, 3, 6), vec(1, 2, 3, 7), 2, api.OK},
		// Neither the lengths nor single replicas decide.
		{vec(1, 9), vec(1, 1, 2, 1, 3, 1), 2, api.OK}, {vec(1, 1, 2, 1, 3, 1), vec(2, 9), 2, api.OK}, {vec(1, 1, 3, 1), vec(1, 1, 2, 1), 2, api.OK}, {vec(2, 2), vec(1, 1, 2, 2, 3, 3), -1, api.OK}, {vec(1, 1, 2, 2, 3, 3), vec(2, 1), 1, api.OK}, {vec(64, 4294967295), vec(64, 4294967294), 1, api.OK}, {vec(64, 4294967294), vec(1, 1, 64, 4294967295), -1, api.OK},
		// One of both is not valid, or both are not, even if they are equal.
		{vec(3, 7, 1, 2), nil, 0, api.ErrArg}, {nil, vec(3, 7, 1, 2), 0, api.ErrArg}, {vec(3, 7, 1, 2), vec(3, 7, 1, 2), 0, api.ErrArg}, {vec(1, 2, 1, 2), vec(1, 2), 0, api.ErrArg}, {vec(1, 2), vec(1, 2, 1, 2), 0, api.ErrArg}, {vec(1, 0), vec(1, 2), 0, api.ErrArg}, {vec(1, 2), vec(0, 0), 0, api.ErrArg}, {vec(65, 1), vec(1, 2), 0, api.ErrArg}, {vec(1, 2), vec(1, 4294967296), 0, api.ErrArg}, {vec(1, 2), vec(1, -1), 0, api.ErrArg},
	} {
		if n, e := vector.Order(c.a, c.b); n != c.want || e != c.err {
			t.Errorf("Order(%v, %v) = %d, %d, want %d, %d", c.a, c.b, n, e, c.want, c.err)
		}
	}
}

// P5.2 and P5.3
func TestMergeAndOrderOfManyVectors(t *testing.T) {
	found := map[int]int{}
	pairs(func(a, b api.Vector) {
		want, err := expectedMerge(a, b)
		if v, e := vector.Merge(a, b); !same(v, e, want, err) {
			t.Fatalf("Merge(%v, %v) = %v, %d, want %v, %d", a, b, v, e, want, err)
		}
		order, err := expectedOrder(a, b)
		if n, e := vector.Order(a, b); n != order || e != err {
			t.Fatalf("Order(%v, %v) = %d, %d, want %d, %d", a, b, n, e, order, err)
		}
		found[order]++
	})
	for _, order := range []int{-1, 0, 1, 2} {
		if found[order] < 60 {
			t.Errorf("only %d pairs had the order %d", found[order], order)
		}
	}
}

// P5.2 and P5.3: what is wrong is found wherever it is, in the first vector as well as in the second one.
func TestVectorsThatAreNotValid(t *testing.T) {
	for _, bad := range wrong() {
		for _, v := range []api.Vector{nil, vec(1, 2), full(), highest(), bad} {
			for _, pair := range [][2]api.Vector{{bad, v}, {v, bad}} {
				if got, e := vector.Merge(pair[0], pair[1]); !same(got, e, nil, api.ErrArg) {
					t.Fatalf("Merge(%v, %v) = %v, %d", pair[0], pair[1], got, e)
				}
				if n, e := vector.Order(pair[0], pair[1]); n != 0 || e != api.ErrArg {
					t.Fatalf("Order(%v, %v) = %d, %d", pair[0], pair[1], n, e)
				}
			}
		}
		for _, d := range append(vec(1, 1, 64, 4294967295, 0, 0), bad[0], bad[len(bad)-1]) {
			if got, e := vector.Raise(bad, d); !same(got, e, nil, api.ErrArg) {
				t.Fatalf("Raise(%v, %v) = %v, %d", bad, d, got, e)
			}
		}
	}
}

// P5.3: which vector has fewer dots is what the dots themselves say, one by one.
func TestOrderIsThatOfTheDots(t *testing.T) {
	var all []api.Dot
	for _, replica := range []int{1, 2, 3, 4, 63, 64} {
		for counter := 1; counter < 6; counter++ {
			all = append(all, dotOf(replica, counter))
		}
	}
	for _, a := range valid() {
		for _, b := range valid() {
			onlyA := slices.ContainsFunc(all, func(d api.Dot) bool { return vector.Has(a, d) && !vector.Has(b, d) })
			onlyB := slices.ContainsFunc(all, func(d api.Dot) bool { return vector.Has(b, d) && !vector.Has(a, d) })
			want := map[[2]bool]int{{false, false}: 0, {false, true}: -1, {true, false}: 1, {true, true}: 2}[[2]bool{onlyA, onlyB}]
			if n, e := vector.Order(a, b); n != want || e != api.OK {
				t.Fatalf("Order(%v, %v) = %d, %d, want %d", a, b, n, e, want)
			}
		}
	}
}
