package alloc_test

import (
	"slices"
	"testing"

	"redpencil/alloc"
	"redpencil/api"
)

// P7.1 to P7.3: whatever was called before, each call has the results of the definitions, and leaves what they say.
func TestRunsAgainstTheDefinitions(t *testing.T) {
	everyRun(t, func(a *alloc.Alloc, x *line, l []call) {
		for i, c := range l {
			got, want := c.of(a), c.want(x)
			if got != want || stateOf(a) != x.state() {
				t.Fatalf("%v: %s, and then %s, want %s, and then %s", l[:i+1], got, stateOf(a), want, x.state())
			}
		}
	})
}

// P7.3: a copy is in the same state, and goes on like its original, of which each leaves the other one alone.
func TestCopy(t *testing.T) {
	everyRun(t, func(a *alloc.Alloc, _ *line, l []call) {
		for i, c := range l {
			before := stateOf(a)
			b, still := a.Copy(), a.Copy()
			if b == a || b == still || stateOf(b) != before {
				t.Fatalf("after %v the copy is %s, want %s", l[:i], stateOf(b), before)
			}
			got := c.of(b)
			if stateOf(a) != before {
				t.Fatalf("after %v the copy's %v changes %s to %s", l[:i], c, before, stateOf(a))
			}
			if want := c.of(a); got != want || stateOf(b) != stateOf(a) {
				t.Fatalf("after %v, %v: %s, but of the copy %s", l[:i], c, want, got)
			}
			if stateOf(still) != before {
				t.Fatalf("after %v, %v changes a copy from %s to %s", l[:i], c, before, stateOf(still))
			}
		}
	})
}

// P7.4: each dot comes once, behind all before it, and not above the end; the last one and those that are left make the end.
func TestNoDotIsGivenTwice(t *testing.T) {
	everyRun(t, func(a *alloc.Alloc, _ *line, l []call) {
		replica, last := a.Replica(), a.Last()
		for i, c := range l {
			for _, d := range given(a, c) {
				if d.Replica != replica || d.Counter <= last || d.Counter > a.End() {
					t.Fatalf("%v gives %v behind %d, with the end %d", l[:i+1], d, last, a.End())
				}
				last = d.Counter
			}
			if a.Last() < last || a.Left() < 0 || a.Last()+a.Left() != a.End() {
				t.Fatalf("after %v: %s", l[:i+1], stateOf(a))
			}
		}
	})
}

// given makes a call, and returns the dots that it gives.
func given(a *alloc.Alloc, c call) []api.Dot {
	switch c.name {
	case "Next":
		if d, e := a.Next(); e == api.OK {
			return []api.Dot{d}
		}
	case "Take":
		l, _ := a.Take(c.n)
		return l
	case "Extend":
		a.Extend(c.n)
	default:
		a.Pass(c.n)
	}
	return nil
}

// P7.4: also without one dot too few.
func TestTakeIsNextAgainAndAgain(t *testing.T) {
	for last := range 4 {
		for end := last; end < 9; end++ {
			for n := range 11 {
				a, b := made(t, 5, last, end), made(t, 5, last, end)
				want, err := a.Take(n)
				var l []api.Dot
				e := api.OK
				for range n {
					var d api.Dot
					if d, e = b.Next(); e != api.OK {
						break
					}
					l = append(l, d)
				}
				if e != err || e == api.OK && (!slices.Equal(l, want) || stateOf(a) != stateOf(b)) || e != api.OK && stateOf(a) != stateOf(made(t, 5, last, end)) {
					t.Errorf("from %d to %d Take(%d) = %v, %d, and Next %v, %d", last, end, n, want, err, l, e)
				}
			}
		}
	}
}

// P7.4: without Pass all counters up to the last one are given.
func TestNoCounterIsLeftOut(t *testing.T) {
	everyRun(t, func(a *alloc.Alloc, _ *line, l []call) {
		first := a.Last() + 1
		var all []api.Dot
		for _, c := range l {
			if c.name == "Pass" {
				return
			}
			all = append(all, given(a, c)...)
		}
		if want := dotsOf(a.Replica(), first, a.Last()); !slices.Equal(all, want) {
			t.Fatalf("%v give %v, want %v", l, all, want)
		}
	})
}

// P7.4: a long run of dots, taken in parts of all sizes, with an end that follows them.
func TestManyDots(t *testing.T) {
	a := made(t, 33, 0, 0)
	var all []api.Dot
	for n := range 700 {
		if e := a.Extend(a.End() + n); e != api.OK {
			t.Fatalf("Extend: %d", e)
		}
		l, e := a.Take(n)
		if e != api.OK || len(l) != n || a.Left() != 0 {
			t.Fatalf("Take(%d): %d dots, %d, and then %s", n, len(l), e, stateOf(a))
		}
		all = append(all, l...)
	}
	if want := dotsOf(33, 1, 700*699/2); !slices.Equal(all, want) {
		t.Errorf("%d dots, want %d, or others", len(all), len(want))
	}
}

// A call that returns an error changes nothing, whatever its argument is.
func TestErrorsChangeNothing(t *testing.T) {
	refused := 0
	for _, c := range []struct{ last, end int }{{0, 0}, {0, 1}, {3, 5}, {5, 5}, {greatest - 1, greatest}, {greatest, greatest}, {0, greatest}} {
		for _, call := range calls(edges) {
			a := made(t, 7, c.last, c.end)
			if got := call.of(a); got == written(nil, api.ErrArg) || got == written(nil, api.ErrRange) || got == written(nil, api.ErrExhausted) {
				refused++
				if a.Replica() != 7 || a.Last() != c.last || a.End() != c.end || a.Left() != c.end-c.last {
					t.Errorf("%v of %v: %s, and then %s", call, c, got, stateOf(a))
				}
			}
		}
	}
	if refused < 100 {
		t.Errorf("only %d calls were refused", refused)
	}
}

// The rule that results share no memory: what is done with dots changes neither the allocator nor other dots, of the same allocator or of a copy.
func TestResultsShareNoMemory(t *testing.T) {
	for _, n := range []int{0, 1, 2, 3, 7, 8, 9, 100} {
		a := made(t, 7, 3, 1000)
		b := a.Copy()
		first, _ := a.Take(n)
		second, _ := a.Take(n)
		third, _ := b.Take(n)
		overwrite(first)
		a.Next()
		a.Pass(900)
		a.Extend(2000)
		fourth, _ := a.Take(n)
		overwrite(fourth)
		if !slices.Equal(second, dotsOf(7, n+4, 2*n+3)) || !slices.Equal(third, dotsOf(7, 4, n+3)) {
			t.Errorf("the dots became %v and %v", second, third)
		}
		if a.Replica() != 7 || a.Last() != 900+n || a.End() != 2000 || b.Last() != 3+n || b.End() != 1000 {
			t.Errorf("the allocators became %s and %s", stateOf(a), stateOf(b))
		}
	}
}

// overwrite gives each dot of a list, and of the room behind it, another value.
func overwrite(l []api.Dot) {
	l = l[:cap(l)]
	for i := range l {
		l[i] = dotOf(l[i].Replica+1000, l[i].Counter-1000)
	}
}

// Dots that were returned stay as they are, whatever is called afterwards.
func TestDotsStayAsTheyAre(t *testing.T) {
	everyRun(t, func(a *alloc.Alloc, _ *line, l []call) {
		before, e := a.Take(min(a.Left(), 2))
		want := slices.Clone(before)
		if e != api.OK {
			t.Fatalf("Take: %d", e)
		}
		for i, c := range l {
			c.of(a)
			if !slices.Equal(before, want) {
				t.Fatalf("after %v %v became %v", l[:i+1], want, before)
			}
		}
	})
}

// Nothing depends on earlier calls: of allocators in equal states, however they came there, all calls have equal results.
func TestEqualStatesHaveEqualResults(t *testing.T) {
	ways := []struct {
		last, end int
		l         []call
	}{
		{3, 6, nil},
		{0, 6, []call{{"Take", 3}, {"Take", 4}}},
		{1, 3, []call{{"Next", 0}, {"Next", 0}, {"Next", 0}, {"Extend", 6}}},
		{0, 5, []call{{"Pass", 3}, {"Pass", 1}, {"Pass", 7}, {"Extend", 6}}},
		{2, 2, []call{{"Extend", 6}, {"Extend", 5}, {"Next", 0}, {"Take", -1}}},
	}
	for _, first := range calls([]int{-1, 0, 2, 3, 4, 5, 6, 7, greatest, greatest + 1}) {
		for _, second := range calls([]int{3, 5, 6, 8}) {
			var want string
			for i, way := range ways {
				// Other allocators come and go in between.
				made(t, 7, 3, 9).Take(i)
				a := made(t, 7, way.last, way.end)
				for _, c := range way.l {
					c.of(a)
				}
				a = a.Copy()
				got := first.of(a) + second.of(a) + stateOf(a)
				if i > 0 && got != want {
					t.Errorf("%v, %v: %s, and by way %d %s", first, second, want, i, got)
				}
				want = got
			}
		}
	}
}

// P1: no call panics, whatever its arguments are.
func TestEveryCallReturns(t *testing.T) {
	for _, last := range edges {
		for _, end := range edges {
			for _, replica := range edges {
				a, _ := alloc.New(replica, last, end)
				for _, c := range calls(edges) {
					c.of(a)
					stateOf(a)
					stateOf(a.Copy())
				}
			}
		}
	}
}
