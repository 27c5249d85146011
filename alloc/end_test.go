package alloc_test

import (
	"math"
	"testing"

	"redpencil/alloc"
	"redpencil/api"
)

// P7.2: the second line of the chapter's examples, which goes on where the first one ends.
func TestExtendAndPass(t *testing.T) {
	a := made(t, 7, 5, 5)
	for _, c := range []struct {
		call call
		want string
		last int
	}{
		{call{"Extend", 9}, written(nil, api.OK), 5}, {call{"Pass", 7}, written(nil, api.OK), 7}, {call{"Next", 0}, written(dotsOf(7, 8, 8), api.OK), 8}, {call{"Pass", 2}, written(nil, api.OK), 8}, {call{"Pass", 10}, written(nil, api.ErrRange), 8}, {call{"Extend", 8}, written(nil, api.ErrArg), 8},
	} {
		if got := c.call.of(a); got != c.want || a.Last() != c.last {
			t.Errorf("%v: %s, and then %s, want %s", c.call, got, stateOf(a), c.want)
		}
	}
	if a.End() != 9 || a.Left() != 1 {
		t.Errorf("at the end: %s", stateOf(a))
	}
}

// P7.2: ends that are equal to the old one, greater, or not allowed.
func TestExtend(t *testing.T) {
	for _, c := range []struct {
		last, old, end int
		want           api.Errno
	}{
		{3, 5, 5, 0}, {3, 5, 6, 0}, {3, 5, greatest, 0}, {5, 5, 5, 0}, {5, 5, 6, 0}, {0, 0, 0, 0}, {0, 0, 1, 0}, {0, 0, greatest, 0}, {greatest, greatest, greatest, 0}, {0, greatest, greatest, 0},
		{3, 5, 4, api.ErrArg}, {3, 5, 3, api.ErrArg}, {3, 5, 2, api.ErrArg}, {3, 5, 0, api.ErrArg}, {3, 5, -1, api.ErrArg}, {0, 0, -1, api.ErrArg}, {5, 5, 4, api.ErrArg}, {3, 5, greatest + 1, api.ErrArg}, {0, 0, greatest + 1, api.ErrArg}, {greatest, greatest, greatest + 1, api.ErrArg}, {0, greatest, greatest - 1, api.ErrArg}, {3, 5, math.MaxInt, api.ErrArg}, {3, 5, math.MinInt, api.ErrArg},
	} {
		a := made(t, 7, c.last, c.old)
		e := a.Extend(c.end)
		end := c.end
		if c.want != api.OK {
			end = c.old
		}
		if e != c.want || a.End() != end || a.Last() != c.last || a.Left() != end-c.last || a.Replica() != 7 {
			t.Errorf("Extend of %v: %d, and then %s", c, e, stateOf(a))
		}
	}
}

// P7.2: what Extend adds comes behind what was left, and also when nothing was left any more.
func TestDotsBehindTheOldEnd(t *testing.T) {
	for last := range 6 {
		a := made(t, 64, last, 5)
		if e := a.Extend(8); e != api.OK {
			t.Fatalf("Extend(8): %d", e)
		}
		if l, e := a.Take(8 - last); written(l, e) != written(dotsOf(64, last+1, 8), api.OK) {
			t.Errorf("behind %d come %v, %d", last, l, e)
		}
		if d, e := a.Next(); d != dotOf(0, 0) || e != api.ErrExhausted {
			t.Errorf("behind the end comes %v, %d", d, e)
		}
	}
}

// P7.2: counters up to the last one, between it and the end, the end, and others.
func TestPass(t *testing.T) {
	for _, c := range []struct {
		last, end, counter int
		want               api.Errno
		behind             int
	}{
		{3, 6, 3, 0, 3}, {3, 6, 2, 0, 3}, {3, 6, 1, 0, 3}, {3, 6, 0, 0, 3}, {3, 6, 4, 0, 4}, {3, 6, 5, 0, 5}, {3, 6, 6, 0, 6}, {5, 5, 5, 0, 5}, {5, 5, 4, 0, 5}, {0, 0, 0, 0, 0}, {0, 1, 0, 0, 0}, {0, 1, 1, 0, 1}, {0, greatest, greatest, 0, greatest}, {greatest, greatest, greatest, 0, greatest}, {greatest, greatest, 0, 0, greatest}, {0, greatest, greatest - 1, 0, greatest - 1},
		{3, 6, 7, api.ErrRange, 3}, {5, 5, 6, api.ErrRange, 5}, {0, 0, 1, api.ErrRange, 0}, {0, greatest, greatest + 1, api.ErrRange, 0}, {3, 6, greatest, api.ErrRange, 3}, {3, 6, greatest + 1, api.ErrRange, 3}, {3, 6, math.MaxInt, api.ErrRange, 3},
		{3, 6, -1, api.ErrArg, 3}, {0, 0, -1, api.ErrArg, 0}, {3, 6, -3, api.ErrArg, 3}, {3, 6, math.MinInt, api.ErrArg, 3},
	} {
		a := made(t, 7, c.last, c.end)
		if e := a.Pass(c.counter); e != c.want || a.Last() != c.behind || a.End() != c.end || a.Left() != c.end-c.behind || a.Replica() != 7 {
			t.Errorf("Pass of %v: %d, and then %s", c, e, stateOf(a))
		}
		d, e := a.Next()
		if c.behind < c.end && (d != dotOf(7, c.behind+1) || e != api.OK) || c.behind == c.end && e != api.ErrExhausted {
			t.Errorf("after Pass of %v Next is %v, %d", c, d, e)
		}
	}
}

// P7.1 to P7.3: a nil and a zero allocator have errors and zero values only, whatever the arguments are, and stay what they are.
func TestNoAllocator(t *testing.T) {
	var zero alloc.Alloc
	for name, a := range map[string]*alloc.Alloc{"nil": nil, "zero": &zero, "new": new(alloc.Alloc)} {
		for _, c := range append(calls(edges), call{"Take", most}, call{"Take", math.MinInt}, call{"Take", math.MaxInt}) {
			if got, want := c.of(a), written(nil, api.ErrNil); got != want {
				t.Errorf("%s, %v: %s, want %s", name, c, got, want)
			}
			if a.Replica() != 0 || a.Last() != 0 || a.End() != 0 || a.Left() != 0 || a.Copy() != nil {
				t.Errorf("%s, after %v: %s, and %v", name, c, stateOf(a), a.Copy())
			}
		}
	}
	if zero != (alloc.Alloc{}) {
		t.Errorf("the zero allocator became %s", stateOf(&zero))
	}
}
