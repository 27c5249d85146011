package vector_test

import (
	"fmt"
	"math"
	"regexp"
	"slices"
	"strings"

	"redpencil/api"
)

// dotOf returns the dot with a replica and a counter.
func dotOf(replica, counter int) api.Dot { return api.Dot{Replica: replica, Counter: counter} }

// vec returns the dots with pairs of a replica and a counter, as a vector that need not be valid.
func vec(l ...int) api.Vector {
	var v api.Vector
	for pair := range slices.Chunk(l, 2) {
		v = append(v, dotOf(pair[0], pair[1]))
	}
	return v
}

// isDot says which dots are valid, as chapter 4 defines it.
func isDot(d api.Dot) bool {
	return d.Replica > 0 && d.Replica < 65 && d.Counter > 0 && d.Counter < 4294967296
}

// isValid says which vectors are valid, as the chapter defines it: each replica is smaller than all that come after it.
func isValid(v api.Vector) bool {
	for i, d := range v {
		if !isDot(d) {
			return false
		}
		for _, later := range v[i+1:] {
			if later.Replica <= d.Replica {
				return false
			}
		}
	}
	return true
}

// counterOf returns the counter of a replica, as the chapter defines it: from the back on, so that the first dot wins.
func counterOf(v api.Vector, replica int) int {
	counter := 0
	for _, d := range slices.Backward(v) {
		if d.Replica == replica {
			counter = d.Counter
		}
	}
	return counter
}

// isIn says which dots are in a vector, as the chapter defines it.
func isIn(v api.Vector, d api.Dot) bool {
	return isDot(d) && !(d.Counter > counterOf(v, d.Replica))
}

// expectedOf returns the vector that has some dots and as few others as possible, and the error: the greatest counter of each replica.
func expectedOf(l []api.Dot) (api.Vector, api.Errno) {
	var v api.Vector
	for replica := 1; replica <= 64; replica++ {
		greatest := 0
		for _, d := range l {
			if !isDot(d) {
				return nil, api.ErrArg
			}
			if d.Replica == replica && d.Counter > greatest {
				greatest = d.Counter
			}
		}
		if greatest > 0 {
			v = append(v, dotOf(replica, greatest))
		}
	}
	return v, api.OK
}

// expectedMerge returns what Merge has to return.
func expectedMerge(a, b api.Vector) (api.Vector, api.Errno) {
	if !isValid(a) || !isValid(b) {
		return nil, api.ErrArg
	}
	return expectedOf(append(slices.Clone(a), b...))
}

// expectedRaise returns what Raise has to return.
func expectedRaise(v api.Vector, d api.Dot) (api.Vector, api.Errno) {
	if !isValid(v) || !isDot(d) {
		return nil, api.ErrArg
	}
	return expectedOf(append(slices.Clone(v), d))
}

// expectedOrder returns what Order has to return: which of two vectors has something that the other one has not, replica by replica.
func expectedOrder(a, b api.Vector) (int, api.Errno) {
	if !isValid(a) || !isValid(b) {
		return 0, api.ErrArg
	}
	first, second := false, false
	for replica := 1; replica <= 64; replica++ {
		first = first || counterOf(a, replica) > counterOf(b, replica)
		second = second || counterOf(a, replica) < counterOf(b, replica)
	}
	switch {
	case first && second:
		return 2, api.OK
	case first:
		return 1, api.OK
	case second:
		return -1, api.OK
	}
	return 0, api.OK
}

// written returns what a vector is written as if nobody asks whether it is valid.
func written(v api.Vector) string {
	s := ""
	for i, d := range v {
		if i > 0 {
			s += " "
		}
		s += fmt.Sprintf("%d.%d", d.Replica, d.Counter)
	}
	if s == "" {
		return "-"
	}
	return s
}

// expectedText returns the text of a vector, and the error, as the chapter defines them.
func expectedText(v api.Vector) (string, api.Errno) {
	if !isValid(v) {
		return "", api.ErrArg
	}
	return written(v), api.OK
}

// textForm is what texts of vectors that have dots look like; which numbers they may have, and in which order, it does not say.
var textForm = regexp.MustCompile(`^[1-9][0-9]*\.[1-9][0-9]*( [1-9][0-9]*\.[1-9][0-9]*)*$`)

// expectedParse returns the vector with a text, and the error, as the chapter defines them.
func expectedParse(s string) (api.Vector, api.Errno) {
	if s == "-" {
		return nil, api.OK
	}
	if !textForm.MatchString(s) {
		return nil, api.ErrFormat
	}
	var v api.Vector
	for _, part := range strings.Fields(s) {
		var d api.Dot
		if n, _ := fmt.Sscanf(part, "%d.%d", &d.Replica, &d.Counter); n != 2 {
			return nil, api.ErrFormat
		}
		v = append(v, d)
	}
	if !isValid(v) {
		return nil, api.ErrFormat
	}
	return v, api.OK
}

// edgeDots returns dots, valid or not, with all numbers around those where something changes.
func edgeDots() []api.Dot {
	replicas := []int{math.MinInt, -64, -1, 0, 1, 2, 3, 9, 10, 63, 64, 65, 66, 128, 1<<32 + 1, math.MaxInt}
	counters := []int{math.MinInt, -4294967295, -1, 0, 1, 2, 3, 9, 10, 64, 65, math.MaxInt32, 1 << 31, 1<<32 - 2, 1<<32 - 1, 1 << 32, 1<<32 + 1, 1 << 62, math.MaxInt}
	var l []api.Dot
	for _, replica := range replicas {
		for _, counter := range counters {
			l = append(l, dotOf(replica, counter))
		}
	}
	return l
}

// small returns all lists of up to three of some dots, valid or not: among them vectors that have replicas twice, or out of order.
func small() []api.Vector {
	some := vec(1, 1, 1, 3, 2, 2, 64, 1, 0, 0, 65, 1, 2, 0, 1, 4294967296)
	l := []api.Vector{nil}
	for from, size := 0, 0; size < 3; size++ {
		to := len(l)
		for _, v := range l[from:to] {
			for _, d := range some {
				l = append(l, append(slices.Clone(v), d))
			}
		}
		from = to
	}
	return l
}

// valid returns all vectors of three replicas with counters of up to three.
func valid() []api.Vector {
	var l []api.Vector
	for x := range 4 * 4 * 4 {
		var v api.Vector
		for i, counter := range []int{x % 4, x / 4 % 4, x / 16} {
			if counter > 0 {
				v = append(v, dotOf([]int{1, 3, 64}[i], counter))
			}
		}
		l = append(l, v)
	}
	return l
}

// full returns the vector of all replicas, whose counters fall, but for the last ones.
func full() api.Vector {
	var v api.Vector
	for replica := 1; replica <= 64; replica++ {
		v = append(v, dotOf(replica, 4294967295-replica/60*4000000000-replica*1000000))
	}
	return v
}

// highest returns the vector that has all dots.
func highest() api.Vector {
	v := full()
	for i := range v {
		v[i].Counter = 4294967295
	}
	return v
}

// mixed returns a valid vector of n replicas that follows a rule with a seed.
func mixed(n, seed int) api.Vector {
	var v api.Vector
	for replica := 1; replica <= 64; replica++ {
		if (replica*37+seed*11)%64 < n {
			v = append(v, dotOf(replica, 1+(replica*replica*7919+seed*104729)%4294967295))
		}
	}
	return v
}

// long returns valid vectors of many lengths, and with counters near the ends of what is allowed.
func long() []api.Vector {
	l := []api.Vector{nil, {}, full(), highest(), vec(1, 4294967295), vec(64, 4294967295), vec(1, 4294967294), vec(1, 1, 64, 4294967295), vec(1, 4294967295, 64, 1), vec(2, 2147483647), vec(2, 2147483648), vec(9, 10, 10, 9), full()[:63], full()[1:]}
	for _, n := range []int{1, 2, 5, 8, 31, 32, 33, 60, 63, 64} {
		for seed := range 3 {
			l = append(l, mixed(n, seed))
		}
	}
	return l
}

// wrong returns long vectors with one thing that is wrong: a dot that is not valid, a replica that comes twice, or two that change places.
func wrong() []api.Vector {
	var l []api.Vector
	for i, d := range full() {
		for _, bad := range vec(0, 0, d.Replica, 0, d.Replica, 4294967296, d.Replica, -1, 0, d.Counter, 65, d.Counter, -d.Replica, d.Counter) {
			v := full()
			v[i] = bad
			l = append(l, v)
		}
		l = append(l, slices.Insert(full(), i, d), append(full(), d))
		if i > 0 {
			near, far := full(), full()
			near[i-1], near[i] = near[i], near[i-1]
			far[0], far[i] = far[i], far[0]
			l = append(l, near, far)
		}
	}
	return l
}

// pairs calls f with every two of some vectors: small ones, valid ones, long ones, and a few that are wrong with these.
func pairs(f func(a, b api.Vector)) {
	some := wrong()[:40]
	for _, all := range [][]api.Vector{small(), valid(), append(long(), some...)} {
		for _, a := range all {
			for _, b := range all {
				f(a, b)
			}
		}
	}
}
