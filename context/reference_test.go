package context_test

import (
	"fmt"
	"math"
	"slices"
	"strings"

	"redpencil/api"
)

// dotOf returns the dot with a replica and a counter.
func dotOf(replica, counter int) api.Dot { return api.Dot{Replica: replica, Counter: counter} }

// dots returns the dots that a text names, in its order, whether they are valid or not; "-" and "none" stand for no dots.
func dots(s string) []api.Dot {
	var l []api.Dot
	if s == "-" || s == "none" {
		return nil
	}
	for _, part := range strings.Fields(s) {
		var d api.Dot
		if n, err := fmt.Sscanf(part, "%d.%d", &d.Replica, &d.Counter); n != 2 || err != nil {
			panic("no dot: " + part)
		}
		l = append(l, d)
	}
	return l
}

// ctx returns the context that is written as the chapter writes it: the vector, a bar, and the dots of the cloud.
func ctx(s string) api.Context {
	v, cloud, found := strings.Cut(s, " / ")
	if !found {
		panic("no context: " + s)
	}
	return api.Context{Vector: dots(v), Cloud: dots(cloud)}
}

// isDot says which dots are valid, as chapter 4 defines it.
func isDot(d api.Dot) bool {
	return d.Replica > 0 && d.Replica < 65 && d.Counter > 0 && d.Counter < 4294967296
}

// isBefore says which of two dots stands first in a set, as chapter 4 defines it.
func isBefore(a, b api.Dot) bool {
	return a.Counter < b.Counter || a.Counter == b.Counter && a.Replica < b.Replica
}

// isValid says which contexts are valid, as chapters 4 to 6 define it: each replica of the vector is smaller, and each dot of the cloud before, all that come after it.
func isValid(c api.Context) bool {
	for i, d := range c.Vector {
		if !isDot(d) {
			return false
		}
		for _, later := range c.Vector[i+1:] {
			if later.Replica <= d.Replica {
				return false
			}
		}
	}
	for i, d := range c.Cloud {
		if !isDot(d) || i > 0 && !isBefore(c.Cloud[i-1], d) {
			return false
		}
	}
	return true
}

// counterOf returns the counter of a replica in a vector, as chapter 5 defines it: from the back on, so that the first dot wins.
func counterOf(v api.Vector, replica int) int {
	counter := 0
	for i := len(v) - 1; i >= 0; i-- {
		if v[i].Replica == replica {
			counter = v[i].Counter
		}
	}
	return counter
}

// isIn says which dots are in a context, as the chapter defines it.
func isIn(c api.Context, d api.Dot) bool {
	if !isDot(d) {
		return false
	}
	for _, e := range c.Cloud {
		if e == d {
			return true
		}
	}
	return d.Counter <= counterOf(c.Vector, d.Replica)
}

// sorted returns the set of some dots.
func sorted(l []api.Dot) []api.Dot {
	l = slices.Clone(l)
	slices.SortFunc(l, func(a, b api.Dot) int {
		switch {
		case isBefore(a, b):
			return -1
		case isBefore(b, a):
			return 1
		}
		return 0
	})
	return slices.Compact(l)
}

// raised returns a valid vector with a counter for a replica.
func raised(v api.Vector, d api.Dot) api.Vector {
	at := 0
	for at < len(v) && v[at].Replica < d.Replica {
		at++
	}
	behind := v[at:]
	if len(behind) > 0 && behind[0].Replica == d.Replica {
		behind = behind[1:]
	}
	return slices.Concat(v[:at], api.Vector{d}, behind)
}

// takesIn returns the place of a dot of the cloud that keeps a context from being compact, from the back on, or -1.
func takesIn(c api.Context) int {
	for i := len(c.Cloud) - 1; i >= 0; i-- {
		if d := c.Cloud[i]; d.Counter-1 <= counterOf(c.Vector, d.Replica) {
			return i
		}
	}
	return -1
}

// expectedCompact returns what Compact has to return, in single steps, each of which takes one dot out of the cloud.
func expectedCompact(c api.Context) (api.Context, api.Errno) {
	if !isValid(c) {
		return api.Context{}, api.ErrArg
	}
	c = api.Context{Vector: slices.Clone(c.Vector), Cloud: slices.Clone(c.Cloud)}
	for at := takesIn(c); at >= 0; at = takesIn(c) {
		d := c.Cloud[at]
		c.Cloud = slices.Delete(c.Cloud, at, at+1)
		if d.Counter > counterOf(c.Vector, d.Replica) {
			c.Vector = raised(c.Vector, d)
		}
	}
	return c, api.OK
}

// expectedUnion returns what Union has to return: that of two vectors is the greater counter of each replica.
func expectedUnion(a, b api.Context) (api.Context, api.Errno) {
	if !isValid(a) || !isValid(b) {
		return api.Context{}, api.ErrArg
	}
	v := a.Vector
	for _, d := range b.Vector {
		if d.Counter > counterOf(v, d.Replica) {
			v = raised(v, d)
		}
	}
	return expectedCompact(api.Context{Vector: v, Cloud: sorted(slices.Concat(b.Cloud, a.Cloud))})
}

// expectedAdd returns what Add has to return.
func expectedAdd(c api.Context, l []api.Dot) (api.Context, api.Errno) {
	return expectedUnion(c, api.Context{Cloud: sorted(l)})
}

// expectedOf returns what Of has to return.
func expectedOf(l []api.Dot) (api.Context, api.Errno) { return expectedAdd(api.Context{}, l) }

// expectedWithin returns what Within has to return, for a first context whose counters are small: it asks for each dot that may be in it.
func expectedWithin(a, b api.Context) (bool, api.Errno) {
	if !isValid(a) || !isValid(b) {
		return false, api.ErrArg
	}
	for _, d := range a.Vector {
		for counter := 1; counter <= d.Counter; counter++ {
			if !isIn(b, dotOf(d.Replica, counter)) {
				return false, api.OK
			}
		}
	}
	for _, d := range a.Cloud {
		if !isIn(b, d) {
			return false, api.OK
		}
	}
	return true, api.OK
}

// expectedMissing returns what Missing has to return.
func expectedMissing(c api.Context, l []api.Dot) []api.Dot {
	var out []api.Dot
	for _, d := range sorted(l) {
		if !isIn(c, d) {
			out = append(out, d)
		}
	}
	return out
}

// expectedSize returns what Size has to return: all dots of the beginnings, and those of the cloud that are beyond.
func expectedSize(c api.Context) uint64 {
	if !isValid(c) {
		return 0
	}
	n := uint64(0)
	for replica := 1; replica <= 64; replica++ {
		n += uint64(counterOf(c.Vector, replica))
	}
	for _, d := range c.Cloud {
		if d.Counter > counterOf(c.Vector, d.Replica) {
			n++
		}
	}
	return n
}

// edgeDots returns dots, valid or not, with all numbers around those where something changes.
func edgeDots() []api.Dot {
	replicas := []int{math.MinInt, -64, -1, 0, 1, 2, 3, 9, 63, 64, 65, 66, 1<<32 + 1, math.MaxInt}
	counters := []int{math.MinInt, math.MinInt + 1, -4294967295, -1, 0, 1, 2, 3, 9, 64, 65, math.MaxInt32, 1 << 31, 1<<32 - 2, 1<<32 - 1, 1 << 32, 1<<32 + 1, math.MaxInt - 1, math.MaxInt}
	var l []api.Dot
	for _, replica := range replicas {
		for _, counter := range counters {
			l = append(l, dotOf(replica, counter))
		}
	}
	return l
}

// subsets returns all sets of some dots that are in order.
func subsets(l []api.Dot) [][]api.Dot {
	var all [][]api.Dot
	for x := range 1 << len(l) {
		var set []api.Dot
		for i, d := range l {
			if x>>i&1 == 1 {
				set = append(set, d)
			}
		}
		all = append(all, set)
	}
	return all
}

// product returns all contexts of some vectors and some clouds.
func product(vectors []string, clouds [][]api.Dot) []api.Context {
	var l []api.Context
	for _, v := range vectors {
		for _, cloud := range clouds {
			l = append(l, api.Context{Vector: dots(v), Cloud: slices.Clone(cloud)})
		}
	}
	return l
}

// few returns valid contexts of few dots of two replicas: with dots that are in the vector, that come behind it, one after the other, and behind gaps.
func few() []api.Context {
	return product([]string{"-", "1.1", "1.2", "3.1", "1.1 3.1", "1.2 3.1"}, subsets(dots("1.1 3.1 1.2 3.2 1.3")))
}

// valid returns valid contexts of more dots of two replicas.
func valid() []api.Context {
	return product([]string{"-", "1.1", "1.3", "2.2", "1.1 2.1", "1.2 2.5", "2.4"}, subsets(dots("1.1 2.1 1.2 2.2 1.3 1.4 2.4 1.5 2.5")))
}

// small returns contexts, valid or not: all vectors of up to two, and clouds of up to two, of some dots, in all orders.
func small() []api.Context {
	some := dots("1.1 1.2 64.1 1.3 0.0 65.1 2.0 1.4294967296")
	lists := [][]api.Dot{nil}
	for _, d := range some {
		lists = append(lists, []api.Dot{d})
		for _, e := range some {
			lists = append(lists, []api.Dot{d, e})
		}
	}
	var l []api.Context
	for _, v := range lists {
		for _, cloud := range lists {
			l = append(l, api.Context{Vector: slices.Clone(v), Cloud: slices.Clone(cloud)})
		}
	}
	return l
}

// full returns the vector of all replicas, with counters that are not the last ones.
func full() api.Vector {
	var v api.Vector
	for replica := 1; replica <= 64; replica++ {
		v = append(v, dotOf(replica, 20-replica/4))
	}
	return v
}

// crowd returns, in order, the dots of replicas whose counters have a rest when they are divided by a number.
func crowd(replicas, counters, divisor, rest int) []api.Dot {
	var l []api.Dot
	for counter := 1; counter <= counters; counter++ {
		for replica := 1; replica <= replicas; replica++ {
			if (counter+replica)%divisor == rest {
				l = append(l, dotOf(replica, counter))
			}
		}
	}
	return l
}

// long returns valid contexts with many dots, and with counters near the ends of what is allowed.
func long() []api.Context {
	l := []api.Context{
		{}, {Vector: api.Vector{}, Cloud: []api.Dot{}}, {Vector: full()}, {Vector: full(), Cloud: []api.Dot{}},
		ctx("1.4294967295 / -"), ctx("1.4294967295 / 1.4294967295"), ctx("1.4294967294 / 1.4294967295"), ctx("1.4294967293 / 1.4294967295"), ctx("1.4294967293 / 1.4294967294 1.4294967295"), ctx("64.4294967294 / 1.4294967295 64.4294967295"), ctx("1.4294967295 64.4294967295 / 1.1 64.1"), ctx("- / 64.4294967295"), ctx("- / 1.4294967294 1.4294967295"), ctx("2.2147483647 / 2.2147483648"), ctx("2.2147483646 / 2.2147483648"), ctx("63.4294967295 / 64.1"), ctx("- / 1.1 64.1"), ctx("- / 64.1 64.2 64.4"),
	}
	for _, replicas := range []int{1, 2, 9, 64} {
		for divisor := 1; divisor <= 4; divisor++ {
			for rest := range divisor {
				cloud := crowd(replicas, 22, divisor, rest)
				l = append(l, api.Context{Cloud: cloud}, api.Context{Vector: full()[:replicas], Cloud: slices.Clone(cloud)}, api.Context{Vector: full()[:replicas], Cloud: crowd(64, 23, divisor, rest)}, api.Context{Vector: crowd(64, 1, divisor, rest), Cloud: crowd(replicas, 9, 1, 0)})
			}
		}
	}
	return l
}

// wrong returns contexts with one thing that is wrong: in the vector or in the cloud, at the front, in the middle, or at the end.
func wrong() []api.Context {
	var l []api.Context
	v, cloud := full(), crowd(9, 12, 2, 1)
	for _, d := range edgeDots() {
		for _, at := range []int{0, 1, 30, 63} {
			if bad := slices.Clone(v); !isDot(d) {
				bad[at] = d
				l = append(l, api.Context{Vector: bad}, api.Context{Vector: bad, Cloud: slices.Clone(cloud)})
			}
		}
		for _, at := range []int{0, 1, 20, len(cloud)} {
			if !isDot(d) {
				l = append(l, api.Context{Cloud: slices.Insert(slices.Clone(cloud), at, d)}, api.Context{Vector: full(), Cloud: slices.Insert(slices.Clone(cloud), at, d)})
			}
		}
	}
	for at := range len(cloud) - 1 {
		swapped, twice := slices.Clone(cloud), slices.Insert(slices.Clone(cloud), at, cloud[at])
		swapped[at], swapped[at+1] = swapped[at+1], swapped[at]
		l = append(l, api.Context{Cloud: swapped}, api.Context{Vector: full(), Cloud: slices.Clone(swapped)}, api.Context{Cloud: twice})
		swapped, twice = full(), slices.Insert(full(), at, v[at])
		swapped[at], swapped[at+1] = swapped[at+1], swapped[at]
		l = append(l, api.Context{Vector: swapped}, api.Context{Vector: twice, Cloud: slices.Clone(cloud)})
	}
	return l
}

// pairs calls f with every two of some contexts: those of few dots, and others, valid or not, with these.
func pairs(f func(a, b api.Context)) {
	mixed := slices.Concat(few()[:20], thinned(small(), 60), thinned(long(), 13), thinned(wrong(), 90))
	for _, all := range [][]api.Context{few(), mixed} {
		for _, a := range all {
			for _, b := range all {
				f(a, b)
			}
		}
	}
}

// thinned returns one of every few contexts.
func thinned(l []api.Context, step int) []api.Context {
	var out []api.Context
	for i := 0; i < len(l); i += step {
		out = append(out, l[i])
	}
	return out
}

// lists returns lists of dots, valid or not: out of order, with dots that come twice, and with gaps.
func lists() [][]api.Dot {
	l := [][]api.Dot{nil, {}, edgeDots(), crowd(9, 12, 2, 1), crowd(64, 3, 1, 0)}
	for _, s := range []string{"1.1", "1.2", "3.1", "1.3 1.2 1.1", "1.1 1.1", "3.2 1.1 3.2 1.1", "1.5 1.3 1.4", "1.3 1.1 2.2 1.2", "1.4 3.1 1.2", "64.4294967295 1.4294967295", "64.1 1.1 33.1", "0.0", "0.1", "1.0", "1.1 0.1", "0.1 1.1", "65.1 1.2", "1.1 1.2 1.4294967296", "1.3 0.0 1.2 0.0", "1.1 -1.5", "2.2 1.-5 2.1", "64.7 65.7 63.7"} {
		l = append(l, dots(s))
	}
	return l
}
