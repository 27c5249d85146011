package alloc_test

import (
	"math"
	"slices"
	"testing"

	"redpencil/alloc"
	"redpencil/api"
)

// P7.1: what is allowed, at the limits; the dots begin behind the last one.
func TestNew(t *testing.T) {
	for _, c := range []struct{ replica, last, end int }{
		{7, 3, 5}, {1, 0, 0}, {1, 0, 1}, {1, 1, 1}, {64, 0, 1}, {64, 3, 3}, {1, 0, greatest}, {1, greatest, greatest}, {64, greatest, greatest}, {2, greatest - 1, greatest}, {63, 1, most + 2},
	} {
		a := made(t, c.replica, c.last, c.end)
		if a.Replica() != c.replica || a.Last() != c.last || a.End() != c.end || a.Left() != c.end-c.last {
			t.Errorf("New(%v) is %s", c, stateOf(a))
		}
		d, e := a.Next()
		if c.last < c.end && (d != dotOf(c.replica, c.last+1) || e != api.OK) || c.last == c.end && (d != dotOf(0, 0) || e != api.ErrExhausted) {
			t.Errorf("New(%v): Next is %v, %d", c, d, e)
		}
	}
}

// P7.1: the examples of the chapter, and what else is not allowed, also with an end that would be allowed otherwise.
func TestWhatMakesNoAllocator(t *testing.T) {
	for _, c := range []struct{ replica, last, end int }{
		{0, 0, 1}, {65, 0, 1}, {1, 2, 1}, {1, 0, greatest + 1},
		{0, 0, 0}, {65, 0, 0}, {-1, 0, 0}, {-1, 0, 1}, {0, 3, 5}, {65, greatest, greatest}, {1, -1, 0}, {1, -1, 1}, {1, -1, -1}, {1, 0, -1}, {1, -2, -1}, {1, 1, 0}, {1, greatest, greatest - 1}, {1, greatest + 1, greatest}, {1, greatest + 1, greatest + 1}, {1, greatest, greatest + 1}, {0, 2, 1}, {65, -1, greatest + 1},
	} {
		if a, e := alloc.New(c.replica, c.last, c.end); a != nil || e != api.ErrArg {
			t.Errorf("New(%v) = %v, %d", c, a, e)
		}
	}
}

// P7.1: all combinations of numbers at the limits.
func TestNewAtTheLimits(t *testing.T) {
	good := 0
	for _, replica := range edges {
		for _, last := range edges {
			for _, end := range edges {
				allowed := replica > 0 && replica < 65 && last >= 0 && last <= end && end < 4294967296
				a, e := alloc.New(replica, last, end)
				if allowed != (a != nil) || allowed != (e == api.OK) || !allowed && e != api.ErrArg {
					t.Fatalf("New(%d, %d, %d) = %v, %d", replica, last, end, a, e)
				}
				if allowed {
					good++
				}
			}
		}
	}
	if good != 4*11*12/2 {
		t.Errorf("%d are allowed", good)
	}
}

// P7.1: the first line of the chapter's examples.
func TestNextAndTake(t *testing.T) {
	a := made(t, 7, 3, 5)
	if d, e := a.Next(); d != dotOf(7, 4) || e != api.OK {
		t.Errorf("Next: %v, %d", d, e)
	}
	if a.Left() != 1 {
		t.Errorf("%d are left", a.Left())
	}
	for _, c := range []struct {
		call call
		want string
	}{
		{call{"Take", 2}, written(nil, api.ErrExhausted)}, {call{"Take", 1}, written(dotsOf(7, 5, 5), api.OK)}, {call{"Next", 0}, written(nil, api.ErrExhausted)}, {call{"Next", 0}, written(nil, api.ErrExhausted)}, {call{"Take", 0}, written(nil, api.OK)}, {call{"Take", 1}, written(nil, api.ErrExhausted)}, {call{"Take", most}, written(nil, api.ErrExhausted)}, {call{"Take", -1}, written(nil, api.ErrArg)}, {call{"Take", most + 1}, written(nil, api.ErrArg)},
	} {
		if got := c.call.of(a); got != c.want {
			t.Errorf("%v: %s, want %s", c.call, got, c.want)
		}
	}
}

// P7.1: no dots, all that are left, and one more.
func TestTakeUpToTheEnd(t *testing.T) {
	for _, c := range []struct{ replica, last, end, n int }{
		{7, 3, 5, 0}, {7, 3, 5, 1}, {7, 3, 5, 2}, {7, 3, 5, 3}, {1, 0, 0, 0}, {1, 0, 0, 1}, {1, 0, 9, 9}, {1, 0, 9, 10}, {64, greatest, greatest, 0}, {64, greatest, greatest, 1}, {64, greatest - 3, greatest, 3}, {64, greatest - 3, greatest, 4}, {3, 5, greatest, 100},
	} {
		a := made(t, c.replica, c.last, c.end)
		want, err, last := dotsOf(c.replica, c.last+1, c.last+c.n), api.OK, c.last+c.n
		if last > c.end {
			want, err, last = nil, api.ErrExhausted, c.last
		}
		if l, e := a.Take(c.n); !slices.Equal(l, want) || e != err || a.Last() != last || a.Left() != c.end-last {
			t.Errorf("Take of %v = %v, %d, and then %s", c, l, e, stateOf(a))
		}
	}
}

// P7.1: as many as may be taken at once, and not one more, however many are left.
func TestTakeTheMostDots(t *testing.T) {
	if alloc.MaxTake != most {
		t.Errorf("MaxTake is %d", alloc.MaxTake)
	}
	for _, end := range []int{5 + most - 1, 5 + most, 5 + most + 1, greatest} {
		a := made(t, 9, 5, end)
		if l, e := a.Take(most + 1); len(l) != 0 || e != api.ErrArg || a.Last() != 5 {
			t.Errorf("Take(%d) with the end %d: %d dots, %d", most+1, end, len(l), e)
		}
		want, err := dotsOf(9, 6, 5+most), api.OK
		if end < 5+most {
			want, err = nil, api.ErrExhausted
		}
		if l, e := a.Take(most); !slices.Equal(l, want) || e != err || a.Last() != 5+len(want) {
			t.Errorf("Take(%d) with the end %d: %d dots, %d, and then %s", most, end, len(l), e, stateOf(a))
		}
	}
}

// P7.1: numbers that are not allowed are found before it is found that there are not as many dots, and change nothing.
func TestTakeOfNoNumber(t *testing.T) {
	for _, end := range []int{3, 5, greatest} {
		a := made(t, 7, 3, end)
		before := stateOf(a)
		for _, n := range []int{-1, -2, -most, math.MinInt, most + 1, most + 2, greatest, math.MaxInt} {
			if l, e := a.Take(n); len(l) != 0 || e != api.ErrArg || stateOf(a) != before {
				t.Errorf("Take(%d) with the end %d: %v, %d, and then %s", n, end, l, e, stateOf(a))
			}
		}
	}
}
