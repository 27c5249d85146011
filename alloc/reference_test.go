package alloc_test

import (
	"fmt"
	"math"
	"slices"
	"testing"

	"redpencil/alloc"
	"redpencil/api"
)

// greatest is the greatest counter, as DOC.md writes it.
const greatest = 4294967295

// most is the greatest number of dots that Take takes, as the chapter writes it.
const most = 65536

// dotOf returns the dot with a replica and a counter.
func dotOf(replica, counter int) api.Dot { return api.Dot{Replica: replica, Counter: counter} }

// dotsOf returns the dots of a replica whose counters go from one to another one.
func dotsOf(replica, from, to int) []api.Dot {
	var l []api.Dot
	for counter := from; counter <= to; counter++ {
		l = append(l, dotOf(replica, counter))
	}
	return l
}

// edges are numbers at the limits of the chapter, and of the numbers.
var edges = []int{math.MinInt, math.MinInt + 1, -greatest, -1, 0, 1, 2, 63, 64, 65, most - 1, most, most + 1, greatest - 1, greatest, greatest + 1, math.MaxInt - 1, math.MaxInt}

// line is a second reading of the chapter: the dots that are left stand in a list, those that come first in front.
type line struct {
	replica, last int
	left          []api.Dot
}

// lineOf returns the line of an allocator.
func lineOf(replica, last, end int) *line {
	return &line{replica, last, dotsOf(replica, last+1, end)}
}

// end returns the counter behind which there are no dots.
func (x *line) end() int {
	if len(x.left) == 0 {
		return x.last
	}
	return x.left[len(x.left)-1].Counter
}

// take takes dots from the front.
func (x *line) take(n, atMost int) ([]api.Dot, api.Errno) {
	if n < 0 || n > atMost {
		return nil, api.ErrArg
	}
	if n > len(x.left) {
		return nil, api.ErrExhausted
	}
	taken := x.left[:n]
	x.left = x.left[n:]
	if n > 0 {
		x.last = taken[n-1].Counter
	}
	return taken, api.OK
}

// extend puts more dots at the back.
func (x *line) extend(end int) api.Errno {
	old := x.end()
	if end < old || end > greatest {
		return api.ErrArg
	}
	x.left = slices.Concat(x.left, dotsOf(x.replica, old+1, end))
	return api.OK
}

// pass lets the dots up to a counter go, one by one.
func (x *line) pass(counter int) api.Errno {
	if counter < 0 {
		return api.ErrArg
	}
	if counter > x.end() {
		return api.ErrRange
	}
	for len(x.left) > 0 && x.left[0].Counter <= counter {
		x.last = x.left[0].Counter
		x.left = x.left[1:]
	}
	return api.OK
}

// state writes what the methods without errors return.
func (x *line) state() string {
	return fmt.Sprintf("%d: %d to %d, %d left", x.replica, x.last, x.end(), len(x.left))
}

// stateOf writes what the methods without errors return.
func stateOf(a *alloc.Alloc) string {
	return fmt.Sprintf("%d: %d to %d, %d left", a.Replica(), a.Last(), a.End(), a.Left())
}

// call is a call of a method with an error.
type call struct {
	name string
	n    int
}

// written writes dots, and an error, in the same way for no dots of either kind.
func written(l []api.Dot, e api.Errno) string {
	return fmt.Sprint(slices.Clip(append([]api.Dot{}, l...)), e)
}

// one returns a list of a single dot; with an error there must be none.
func one(d api.Dot, e api.Errno) ([]api.Dot, api.Errno) {
	if e != api.OK && d == (api.Dot{}) {
		return nil, e
	}
	return []api.Dot{d}, e
}

// of makes the call, and writes its results.
func (c call) of(a *alloc.Alloc) string {
	switch c.name {
	case "Next":
		return written(one(a.Next()))
	case "Take":
		return written(a.Take(c.n))
	case "Extend":
		return written(nil, a.Extend(c.n))
	}
	return written(nil, a.Pass(c.n))
}

// want makes the call of a line, and writes what its results have to be.
func (c call) want(x *line) string {
	switch c.name {
	case "Next":
		return written(x.take(1, 1))
	case "Take":
		return written(x.take(c.n, most))
	case "Extend":
		return written(nil, x.extend(c.n))
	}
	return written(nil, x.pass(c.n))
}

// calls returns calls whose counters are about some counters, also those that are refused.
func calls(counters []int) []call {
	l := []call{{"Next", 0}}
	for _, n := range []int{-1, 0, 1, 2, 3, 5, most + 1} {
		l = append(l, call{"Take", n})
	}
	for _, n := range counters {
		l = append(l, call{"Extend", n}, call{"Pass", n})
	}
	return l
}

// made returns an allocator, which there must be.
func made(t *testing.T, replica, last, end int) *alloc.Alloc {
	t.Helper()
	a, e := alloc.New(replica, last, end)
	if a == nil || e != api.OK {
		t.Fatalf("New(%d, %d, %d) = %v, %d", replica, last, end, a, e)
	}
	return a
}

// everyRun calls f with allocators of some replicas, the lines that they have to be like, and every short list of calls.
func everyRun(t *testing.T, f func(a *alloc.Alloc, x *line, l []call)) {
	for replica, base := range map[int]int{7: 0, 64: 9, 1: greatest - 3} {
		counters := []int{-1, 0, base - 1, base, base + 1, base + 2, base + 3, base + 5}
		all := calls(counters)
		for last := base; last <= base+3; last++ {
			for end := last; end <= base+3; end++ {
				for i := range len(all) * len(all) * len(all) {
					l := []call{all[i/len(all)/len(all)], all[i/len(all)%len(all)], all[i%len(all)]}
					f(made(t, replica, last, end), lineOf(replica, last, end), l)
				}
			}
		}
	}
}
