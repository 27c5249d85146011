package dot_test

import (
	"fmt"
	"math"
	"slices"

	"redpencil/api"
)

// dotOf returns the dot with a replica and a counter.
func dotOf(replica, counter int) api.Dot { return api.Dot{Replica: replica, Counter: counter} }

// dots returns the dots with pairs of a replica and a counter.
func dots(l ...int) []api.Dot {
	var all []api.Dot
	for pair := range slices.Chunk(l, 2) {
		all = append(all, dotOf(pair[0], pair[1]))
	}
	return all
}

// isValid says which dots are valid, as the chapter defines it.
func isValid(d api.Dot) bool {
	return d.Replica > 0 && d.Replica < 65 && d.Counter > 0 && d.Counter < 4294967296
}

// isRoot says which dot names the root, as the chapter defines it.
func isRoot(d api.Dot) bool { return d.Replica == 0 && d.Counter == 0 }

// before says which of two dots comes first, as the chapter defines it.
func before(a, b api.Dot) bool {
	if a.Counter == b.Counter {
		return a.Replica < b.Replica
	}
	return a.Counter < b.Counter
}

// order returns what Compare has to return, as the chapter defines it.
func order(a, b api.Dot) int {
	switch {
	case before(a, b):
		return -1
	case before(b, a):
		return 1
	}
	return 0
}

// in says which dots a list has.
func in(l []api.Dot, d api.Dot) bool {
	for _, x := range l {
		if x.Replica == d.Replica && x.Counter == d.Counter {
			return true
		}
	}
	return false
}

// chosen returns the set of those dots of a list that are wanted: again and again the first one that comes after the last.
func chosen(l []api.Dot, wanted func(d api.Dot) bool) []api.Dot {
	var set []api.Dot
	for {
		next := -1
		for i, d := range l {
			later := len(set) == 0 || before(set[len(set)-1], d)
			if later && wanted(d) && (next < 0 || before(d, l[next])) {
				next = i
			}
		}
		if next < 0 {
			return set
		}
		set = append(set, l[next])
	}
}

// setOf, unionOf and minusOf return the sets that the chapter defines.
func setOf(l []api.Dot) []api.Dot { return chosen(l, func(api.Dot) bool { return true }) }
func unionOf(a, b []api.Dot) []api.Dot {
	return setOf(append(slices.Clone(a), b...))
}
func minusOf(a, b []api.Dot) []api.Dot {
	return chosen(a, func(d api.Dot) bool { return !in(b, d) })
}

// expected returns the text of a dot, and the error, as the chapter defines them.
func expected(d api.Dot) (string, api.Errno) {
	switch {
	case isRoot(d):
		return "root", api.OK
	case !isValid(d):
		return "", api.ErrArg
	}
	return fmt.Sprintf("%d.%d", d.Replica, d.Counter), api.OK
}

// edges returns dots, valid or not, with all numbers around those where something changes.
func edges() []api.Dot {
	replicas := []int{math.MinInt, -64, -2, -1, 0, 1, 2, 3, 9, 10, 63, 64, 65, 128, 1<<32 + 1, math.MaxInt}
	counters := []int{math.MinInt, math.MinInt32, -4294967295, -1, 0, 1, 2, 3, 9, 10, 64, 65, math.MaxInt32, 1 << 31, 1<<32 - 2, 1<<32 - 1, 1 << 32, 1<<32 + 1, 1 << 62, math.MaxInt}
	var l []api.Dot
	for _, replica := range replicas {
		for _, counter := range counters {
			l = append(l, dotOf(replica, counter))
		}
	}
	return l
}

// small returns all lists of up to three of some dots, among them the root and others that are not valid.
func small() [][]api.Dot {
	some := dots(0, 0, 1, 1, 2, 1, 1, 2, 65, 1, -1, 2)
	l := [][]api.Dot{nil}
	for from, size := 0, 0; size < 3; size++ {
		to := len(l)
		for _, s := range l[from:to] {
			for _, d := range some {
				l = append(l, append(slices.Clone(s), d))
			}
		}
		from = to
	}
	return l
}

// mixed returns n dots that follow a rule, in no order, and some of them twice if there are enough.
func mixed(n int) []api.Dot {
	l := make([]api.Dot, n)
	for i := range l {
		l[i] = dotOf((i*i+3*i)%67-1, (i*37+i/5*91)%(n/2+5)-2)
	}
	return l
}

// rising returns n dots in order, each of them once, of a replica and of the next one by turns.
func rising(n, replica int) []api.Dot {
	l := make([]api.Dot, n)
	for i := range l {
		l[i] = dotOf(replica+i%2, i+1)
	}
	return l
}

// lists returns lists of many lengths: no dots, one, the edges, some in order, the wrong way round, all equal, and mixed.
func lists() [][]api.Dot {
	down := rising(30, 5)
	slices.Reverse(down)
	l := [][]api.Dot{nil, {}, dots(0, 0), dots(3, 7), dots(65, 1), dots(5, 7, 3, 7, 5, 6, 3, 7), edges(), rising(30, 5), rising(40, 6), down, slices.Repeat(dots(3, 7), 20), slices.Repeat(dots(3, 7, 0, 0), 20)}
	for _, n := range []int{2, 3, 5, 11, 12, 13, 20, 50, 51, 100, 300} {
		l = append(l, mixed(n))
	}
	return l
}
