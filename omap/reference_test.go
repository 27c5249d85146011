package omap_test

import (
	"cmp"
	"fmt"
	"iter"
	"math"
	"strings"
	"testing"

	"redpencil/omap"
)

// ordered is what a map can be asked and told, but for its copies.
type ordered[K, V any] interface {
	Set(k K, v V) (V, bool)
	Get(k K) (V, bool)
	Delete(k K) bool
	Len() int
	At(i int) (K, V, bool)
	Rank(k K) int
	Floor(k K) (K, V, bool)
	Ceil(k K) (K, V, bool)
	All() iter.Seq2[K, V]
	From(k K) iter.Seq2[K, V]
}

// pair is a key with its value.
type pair[K, V any] struct {
	k K
	v V
}

// heap is a second reading of the chapter: keys with their values lie about as they came, and each question is answered by a look at all of them.
type heap[K, V any] struct {
	compare func(a, b K) int
	pairs   []pair[K, V]
}

// Set changes the value of the pair with the key, or adds one.
func (h *heap[K, V]) Set(k K, v V) (old V, was bool) {
	for i := range h.pairs {
		if p := &h.pairs[i]; h.compare(p.k, k) == 0 {
			old, p.v = p.v, v
			return old, true
		}
	}
	h.pairs = append(h.pairs, pair[K, V]{k, v})
	return old, false
}

// Get looks for the key.
func (h *heap[K, V]) Get(k K) (v V, is bool) {
	for _, p := range h.pairs {
		if h.compare(p.k, k) == 0 {
			return p.v, true
		}
	}
	return v, false
}

// Delete keeps the others.
func (h *heap[K, V]) Delete(k K) bool {
	var others []pair[K, V]
	for _, p := range h.pairs {
		if h.compare(p.k, k) != 0 {
			others = append(others, p)
		}
	}
	was := len(others) < len(h.pairs)
	h.pairs = others
	return was
}

// Len counts the pairs.
func (h *heap[K, V]) Len() int { return len(h.pairs) }

// Rank counts the keys before another one.
func (h *heap[K, V]) Rank(k K) int {
	n := 0
	for _, p := range h.pairs {
		if h.compare(p.k, k) < 0 {
			n++
		}
	}
	return n
}

// At looks for the key with so many before it.
func (h *heap[K, V]) At(i int) (k K, v V, is bool) {
	for _, p := range h.pairs {
		if h.Rank(p.k) == i {
			return p.k, p.v, true
		}
	}
	return k, v, false
}

// Floor goes back from behind all keys, as long as they come after the key.
func (h *heap[K, V]) Floor(k K) (at K, v V, is bool) {
	for i := len(h.pairs) - 1; i >= 0; i-- {
		if at, v, is := h.At(i); h.compare(at, k) <= 0 {
			return at, v, is
		}
	}
	return at, v, false
}

// Ceil goes on from before all keys, as long as they come before the key.
func (h *heap[K, V]) Ceil(k K) (at K, v V, is bool) {
	for i := range h.pairs {
		if at, v, is := h.At(i); h.compare(at, k) >= 0 {
			return at, v, is
		}
	}
	return at, v, false
}

// All goes over the indices.
func (h *heap[K, V]) All() iter.Seq2[K, V] {
	return func(yield func(K, V) bool) {
		for i := range h.pairs {
			if k, v, _ := h.At(i); !yield(k, v) {
				return
			}
		}
	}
}

// From leaves out what comes before the key.
func (h *heap[K, V]) From(k K) iter.Seq2[K, V] {
	return func(yield func(K, V) bool) {
		for at, v := range h.All() {
			if h.compare(at, k) >= 0 && !yield(at, v) {
				return
			}
		}
	}
}

// words writes values with single spaces between them, also around those that are strings.
func words(values ...any) string { return strings.TrimSuffix(fmt.Sprintln(values...), "\n") }

// listed writes what an iterator yields.
func listed[K, V any](s iter.Seq2[K, V]) string {
	var b strings.Builder
	for k, v := range s {
		fmt.Fprintf(&b, "%v:%v ", k, v)
	}
	return strings.TrimSpace(b.String())
}

// asked writes what a map answers about itself, and about some keys, whether they are there or not.
func asked[K, V any](m ordered[K, V], keys []K) string {
	var b strings.Builder
	fmt.Fprintf(&b, "%d: %s\n", m.Len(), listed(m.All()))
	indices := []int{math.MinInt, -m.Len() - 1, -2, -1, m.Len() + 1, math.MaxInt}
	for i := range m.Len() + 1 {
		indices = append(indices, i)
	}
	for _, i := range indices {
		k, v, is := m.At(i)
		fmt.Fprintf(&b, "at %d: %v %v %v\n", i, k, v, is)
	}
	for _, k := range keys {
		v, is := m.Get(k)
		fmt.Fprintf(&b, "%v: %v %v, rank %d", k, v, is, m.Rank(k))
		at, v, is := m.Floor(k)
		fmt.Fprintf(&b, ", floor %v %v %v", at, v, is)
		at, v, is = m.Ceil(k)
		fmt.Fprintf(&b, ", ceil %v %v %v, from %s\n", at, v, is, listed(m.From(k)))
	}
	return b.String()
}

// told is a call that changes a map: Set, or else Delete.
type told[K, V any] struct {
	set bool
	k   K
	v   V
}

// to makes the call, and writes its results.
func (c told[K, V]) to(m ordered[K, V]) string {
	if c.set {
		old, was := m.Set(c.k, c.v)
		return words(old, was)
	}
	return words(m.Delete(c.k))
}

// String writes the call.
func (c told[K, V]) String() string {
	if c.set {
		return fmt.Sprintf("Set(%v, %v)", c.k, c.v)
	}
	return fmt.Sprintf("Delete(%v)", c.k)
}

// follow makes calls of a map and of a heap, and compares each result, and what both answer about some keys, from time to time at least.
func follow[K, V any](t *testing.T, m *omap.Map[K, V], h *heap[K, V], calls []told[K, V], keys []K, every int) {
	t.Helper()
	for i, c := range calls {
		if got, want := c.to(m), c.to(h); got != want {
			t.Fatalf("%v: %s, want %s", calls[:i+1], got, want)
		}
		if i%every == 0 || i == len(calls)-1 {
			if got, want := asked(m, keys), asked(h, keys); got != want {
				t.Fatalf("after %v:\n%s\nwant:\n%s", calls[:i+1], got, want)
			}
		}
	}
}

// filled returns an empty map with an order that was given some keys, with the numbers from 0 on as their values.
func filled[K any](compare func(a, b K) int, keys ...K) *omap.Map[K, int] {
	m := omap.New[K, int](compare)
	for i, k := range keys {
		m.Set(k, i)
	}
	return m
}

// numbers returns a map with the increasing order, which has the numbers below n as keys, each with 10 times itself.
func numbers(n int) *omap.Map[int, int] {
	m := omap.New[int, int](cmp.Compare)
	for i := range n {
		m.Set(i, 10*i)
	}
	return m
}

// decreasing is the order that is the other way round.
func decreasing[K cmp.Ordered](a, b K) int { return cmp.Compare(b, a) }

// folded is an order that takes words that differ in their small and capital letters for the same key.
func folded(a, b string) int { return cmp.Compare(strings.ToLower(a), strings.ToLower(b)) }

// byTens is an order that takes all numbers with the same tens for the same key, and answers with numbers other than 1 and -1.
func byTens(a, b int) int { return 7 * (a/10 - b/10) }

// mixed returns the numbers below n, each of them once, in an order that has no rule to it.
func mixed(n int, seed uint32) []int {
	l := make([]int, n)
	for i := range l {
		seed = seed*1664525 + 1013904223
		j := int(seed>>8) % (i + 1)
		l[i] = l[j]
		l[j] = i
	}
	return l
}
