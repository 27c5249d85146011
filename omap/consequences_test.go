package omap_test

import (
	"cmp"
	"math/bits"
	"slices"
	"sync"
	"testing"

	"redpencil/omap"
)

// P8.1 to P8.5: every run of a few calls on a few keys, in several orders, against the second reading of the chapter.
func TestShortRuns(t *testing.T) {
	for name, compare := range map[string]func(a, b int) int{"increasing": cmp.Compare[int], "decreasing": decreasing[int], "by tens": byTens} {
		// By tens, 10 and 13 are the same key.
		keys := []int{10, 13, 25, 4}
		asks := []int{-20, 4, 8, 10, 13, 20, 25, 40}
		for i := range 8 * 8 * 8 * 8 * 8 {
			var calls []told[int, int]
			for left := i; len(calls) < 5; left /= 8 {
				calls = append(calls, told[int, int]{left%2 == 0, keys[left%8/2], len(calls) + 1})
			}
			follow(t, omap.New[int, int](compare), &heap[int, int]{compare: compare}, calls, asks, len(calls))
			if t.Failed() {
				t.Fatal(name)
			}
		}
	}
}

// permutations calls f with all orders of the numbers below n.
func permutations(n int, f func(l []int)) {
	var put func(l []int)
	put = func(l []int) {
		if len(l) == n {
			f(l)
		}
		for i := range n {
			if !slices.Contains(l, i) {
				put(append(l, i))
			}
		}
	}
	put(make([]int, 0, n))
}

// P8.5: in which order keys are set does not matter for what is there afterwards, nor does it matter in which order others were deleted.
func TestOrderOfCallsDoesNotMatter(t *testing.T) {
	asks := []int{-1, 0, 1, 2, 3, 4, 5, 6, 7}
	want, half := asked(numbers(7), asks), ""
	permutations(7, func(l []int) {
		m := omap.New[int, int](cmp.Compare)
		for _, k := range l {
			m.Set(k, 10*k)
		}
		if got := asked(m, asks); got != want {
			t.Fatalf("set in the order %v:\n%s\nwant:\n%s", l, got, want)
		}
		for _, k := range l {
			if k%2 == 1 && !m.Delete(k) {
				t.Fatalf("%d is not there", k)
			}
		}
		got := asked(m, asks)
		if half == "" {
			half = got
		}
		if got != half || m.Len() != 4 {
			t.Fatalf("deleted in the order %v:\n%s\nwant:\n%s", l, got, half)
		}
	})
}

// P8.5: long runs without a rule to them, on few keys and on many, in which the map grows and shrinks, against the second reading.
func TestLongRuns(t *testing.T) {
	for seed := range uint32(12) {
		many := 5 + int(seed)*11
		var calls []told[int, int]
		for i, k := range mixed(900, seed+1) {
			// First there are more that come, and then more that go.
			set := k%5 > 0
			if i/150%2 == 1 {
				set = k%5 == 0
			}
			calls = append(calls, told[int, int]{set, k * 7 % many, i})
		}
		asks := []int{-1, 0, many / 3, many / 2, many - 1, many}
		follow(t, omap.New[int, int](cmp.Compare), &heap[int, int]{compare: cmp.Compare[int]}, calls, asks, 50)
		follow(t, omap.New[int, int](byTens), &heap[int, int]{compare: byTens}, calls, asks, 90)
	}
}

// isWhole checks what must hold of each map: what All yields is in the order, and as many as Len says; At of Rank of a key is the key.
func isWhole(t *testing.T, m *omap.Map[int, int]) {
	t.Helper()
	i, last := 0, 0
	for k, v := range m.All() {
		if i > 0 && last >= k {
			t.Fatalf("%d comes behind %d", k, last)
		}
		if r := m.Rank(k); r != i {
			t.Fatalf("Rank(%d) = %d, want %d", k, r, i)
		}
		if at, w, is := m.At(m.Rank(k)); at != k || w != v || !is {
			t.Fatalf("At(%d) = %d, %d, %t, want %d, %d", i, at, w, is, k, v)
		}
		if w, is := m.Get(k); w != v || !is {
			t.Fatalf("Get(%d) = %d, %t, want %d", k, w, is, v)
		}
		i, last = i+1, k
	}
	if m.Len() != i {
		t.Fatalf("Len() = %d, but there are %d", m.Len(), i)
	}
}

// fills are orders in which many keys come, and go.
var fills = map[string]func(n int) []int{
	"increasing": func(n int) []int { return slices.Collect(count(0, n)) },
	"decreasing": func(n int) []int {
		l := slices.Collect(count(0, n))
		slices.Reverse(l)
		return l
	},
	"mixed": func(n int) []int { return mixed(n, 77) },
	"from both ends": func(n int) []int {
		var l []int
		for i := range n {
			l = append(l, [2]int{i / 2, n - 1 - i/2}[i%2])
		}
		return l
	},
	"inside out": func(n int) []int {
		var l []int
		for i := range n {
			l = append(l, n/2+(i+1)/2*(1-i%2*2))
		}
		return l
	},
}

// P8.5: many keys that come in one order, and go in another one.
func TestManyKeys(t *testing.T) {
	const n = 1 << 12
	for came, come := range fills {
		for went, goes := range fills {
			m := omap.New[int, int](cmp.Compare)
			for _, k := range come(n) {
				if old, was := m.Set(k, 3*k); old != 0 || was {
					t.Fatalf("%s: Set(%d) = %d, %t", came, k, old, was)
				}
			}
			isWhole(t, m)
			for i, k := range goes(n) {
				if v, is := m.Get(k); v != 3*k || !is || !m.Delete(k) || m.Delete(k) {
					t.Fatalf("%s, %s: %d has %d, %t", came, went, k, v, is)
				}
				if m.Len() != n-1-i {
					t.Fatalf("%s, %s: %d keys are left", came, went, m.Len())
				}
				if i%512 == 100 {
					isWhole(t, m)
				}
			}
			if m.Len() != 0 || listed(m.All()) != "" {
				t.Errorf("%s, %s: %d keys are left", came, went, m.Len())
			}
		}
	}
}

// However keys came and went, one is found by few questions, about as many as the number of keys has bits.
func TestFewQuestions(t *testing.T) {
	const n = 1 << 13
	asked := 0
	compare := func(a, b int) int {
		asked++
		return cmp.Compare(a, b)
	}
	look := func(m *omap.Map[int, int], what string) {
		t.Helper()
		most := 0
		for k := range n {
			asked = 0
			m.Get(k)
			most = max(most, asked)
		}
		if bound := 5*bits.Len(uint(m.Len()))/2 + 2; most > bound {
			t.Errorf("%s, %d keys: %d questions, want at most %d", what, m.Len(), most, bound)
		}
	}
	for came, come := range fills {
		for went, goes := range fills {
			m := omap.New[int, int](compare)
			for _, k := range come(n) {
				m.Set(k, k)
			}
			look(m, came)
			for i, k := range goes(n) {
				m.Delete(k)
				if i == n/2 || i == n*7/8 || i == n-40 {
					look(m, came+", "+went)
				}
			}
		}
	}
	m := omap.New[int, int](compare)
	for i := range n {
		m.Set(i, i)
		if i > 100 {
			m.Delete(i - 100)
		}
	}
	look(m, "a window that moves on")
}

// Nothing depends on earlier calls: of maps with the same keys, however they came there, all calls have equal results, which go on so.
func TestEqualMapsHaveEqualResults(t *testing.T) {
	for _, n := range []int{0, 1, 2, 5, 16, 31} {
		one, other := numbers(n), omap.New[int, int](cmp.Compare)
		for i := range 5 * n {
			other.Set(5*n-i, i)
			numbers(i % 4).Delete(1)
		}
		for _, k := range mixed(5*n+1, 3) {
			other.Delete(k)
		}
		for k := range n {
			other.Set(k, 10*k)
		}
		for i, k := range mixed(3*n+3, 4) {
			c := told[int, int]{i%2 == 0, k - 1, i}
			if got, want := asked(other, []int{-1, 0, k, n}), asked(one, []int{-1, 0, k, n}); got != want {
				t.Fatalf("%d keys:\n%s\nwant:\n%s", n, got, want)
			}
			if got, want := c.to(other), c.to(one); got != want {
				t.Fatalf("%v: %s, want %s", c, got, want)
			}
		}
	}
}

// P8.4: a map and its copies go on independently of each other, also at the same time, as their iterators do.
func TestCopiesAtTheSameTime(t *testing.T) {
	m := numbers(200)
	var wait sync.WaitGroup
	got := make([]string, 8)
	for i := range got {
		c, s := m.Copy(), m.All()
		wait.Go(func() {
			for k := range 200 {
				if k%8 != i {
					c.Delete(k)
				} else {
					c.Set(k, i)
				}
			}
			got[i] = words(c.Len(), c.Rank(100), listed(c.From(190)), listed(s))
		})
	}
	for k := range 200 {
		m.Delete(k)
	}
	wait.Wait()
	before := listed(numbers(200).All())
	for i := range got {
		// Of the numbers that are left, each is 8 more than the last one.
		left := filled(cmp.Compare[int])
		for k := i; k < 200; k += 8 {
			left.Set(k, i)
		}
		if want := words(25, left.Rank(100), listed(left.From(190)), before); got[i] != want {
			t.Errorf("%d: %s, want %s", i, got[i], want)
		}
	}
}
