package omap_test

import (
	"cmp"
	"fmt"
	"iter"
	"slices"
	"strings"
	"testing"

	"redpencil/omap"
)

// series is an iterator, with what it has to yield.
type series struct {
	name string
	s    iter.Seq2[int, int]
	want []int
}

// allSeries returns every iterator of a map of numbers: All, and From for each key, and for keys that are not there.
func allSeries(m *omap.Map[int, int], n int) []series {
	every := slices.Collect(count(0, n))
	l := []series{{"All", m.All(), every}}
	for k := -2; k < n+2; k++ {
		l = append(l, series{fmt.Sprintf("From(%d)", k), m.From(k), every[min(max(k, 0), n):]})
	}
	return l
}

// count goes over the numbers from one to below another one.
func count(from, to int) iter.Seq[int] {
	return func(yield func(int) bool) {
		for i := from; i < to && yield(i); i++ {
		}
	}
}

// yielded returns the keys of an iterator, whose values must be 10 times as great.
func yielded(t *testing.T, s iter.Seq2[int, int]) []int {
	t.Helper()
	var l []int
	for k, v := range s {
		if v != 10*k {
			t.Errorf("%d has the value %d", k, v)
		}
		l = append(l, k)
	}
	return l
}

// P8.4: all keys in their order, or those from a key on, each of them once, as often as the iterator is gone over.
func TestIteratorsGoOverAgain(t *testing.T) {
	for n := range 40 {
		for _, c := range allSeries(numbers(n), n) {
			for time := range 3 {
				if got := yielded(t, c.s); !slices.Equal(got, c.want) {
					t.Errorf("of %d, %s yields %v in turn %d", n, c.name, got, time)
				}
			}
		}
	}
}

// P8.4: the loop over an iterator may stop anywhere, and nothing is yielded any more; the next loop begins anew.
func TestIteratorsStop(t *testing.T) {
	for _, n := range []int{0, 1, 2, 3, 7, 20, 33} {
		for _, c := range allSeries(numbers(n), n) {
			for stop := range len(c.want) + 2 {
				var l []int
				c.s(func(k, v int) bool {
					l = append(l, k)
					return len(l) <= stop
				})
				if want := c.want[:min(stop+1, len(c.want))]; !slices.Equal(l, want) {
					t.Errorf("of %d, %s yields %v with a stop at %d", n, c.name, l, stop)
				}
			}
		}
	}
}

// P8.4: also a loop in another one, over the same iterator, and out of both at once.
func TestIteratorsInEachOther(t *testing.T) {
	s := numbers(5).All()
	var l []string
outer:
	for a := range s {
		for b := range s {
			if b > a {
				continue outer
			}
			if a == 3 && b == 2 {
				break outer
			}
			l = append(l, fmt.Sprint(a, b))
		}
	}
	if got := strings.Join(l, ","); got != "0 0,1 0,1 1,2 0,2 1,2 2,3 0,3 1" {
		t.Error(got)
	}
}

// P8.4: two loops over one iterator that go on by turns.
func TestIteratorsByTurns(t *testing.T) {
	s := numbers(30).From(3)
	a, stopA := iter.Pull2(s)
	defer stopA()
	b, stopB := iter.Pull2(s)
	defer stopB()
	b()
	for i := 3; i < 31; i++ {
		ka, va, isA := a()
		if there := i < 30; isA != there || there && (ka != i || va != 10*i) {
			t.Errorf("%d: %d, %d, %t", i, ka, va, isA)
		}
		kb, vb, isB := b()
		if there := i+1 < 30; isB != there || there && (kb != i+1 || vb != 10*i+10) {
			t.Errorf("%d: %d, %d, %t", i+1, kb, vb, isB)
		}
	}
}

// P8.4: a loop that panics is left by the panic.
func TestPanicsInLoopsGoOn(t *testing.T) {
	m := numbers(10)
	for _, s := range []iter.Seq2[int, int]{m.All(), m.From(2), m.Copy().All()} {
		got := func() (got any) {
			defer func() { got = recover() }()
			for k := range s {
				if k == 4 {
					panic("left")
				}
			}
			return nil
		}()
		if got != "left" {
			t.Errorf("the loop panics with %v", got)
		}
	}
	if got := yielded(t, m.All()); len(got) != 10 {
		t.Error(got)
	}
}

// changes are what may be done to a map of the numbers below n with a number.
var changes = map[string]func(m *omap.Map[int, int], n, i int){
	"nothing":       func(m *omap.Map[int, int], n, i int) {},
	"new values":    func(m *omap.Map[int, int], n, i int) { m.Set(i, -1); m.Set(n-1-i, -2) },
	"keys before":   func(m *omap.Map[int, int], n, i int) { m.Set(-1-i, -1) },
	"keys behind":   func(m *omap.Map[int, int], n, i int) { m.Set(n+i, -1) },
	"own key":       func(m *omap.Map[int, int], n, i int) { m.Delete(i) },
	"next key":      func(m *omap.Map[int, int], n, i int) { m.Delete(i + 1) },
	"first key":     func(m *omap.Map[int, int], n, i int) { k, _, _ := m.At(0); m.Delete(k) },
	"last key":      func(m *omap.Map[int, int], n, i int) { k, _, _ := m.At(m.Len() - 1); m.Delete(k) },
	"other key":     func(m *omap.Map[int, int], n, i int) { m.Delete(n - 1 - i) },
	"key and again": func(m *omap.Map[int, int], n, i int) { m.Delete(i + 1); m.Set(i+1, -1) },
	"all keys": func(m *omap.Map[int, int], n, i int) {
		for k := range n {
			m.Delete(k)
		}
	},
	"all anew": func(m *omap.Map[int, int], n, i int) {
		for k := range n {
			m.Delete(k)
			m.Set(100+k, k)
		}
	},
}

// P8.4, P8.5: what is done between the call of All or From and the loop, or in one turn of the loop, or in all of them, changes nothing of what is yielded, and is in the map afterwards.
func TestIteratorsYieldWhatThereWas(t *testing.T) {
	for name, change := range changes {
		for _, n := range []int{1, 2, 5, 12} {
			for i := range len(allSeries(numbers(n), n)) {
				for turn := -2; turn < n; turn++ {
					m, other := numbers(n), numbers(n)
					c := allSeries(m, n)[i]
					if turn == -2 {
						change(m, n, 0)
						change(other, n, 0)
					}
					var l []int
					for k, v := range c.s {
						if turn == -1 || turn == len(l) {
							change(m, n, k)
							change(other, n, k)
						}
						if v != 10*k {
							t.Errorf("%s of %d, %s: %d has the value %d", name, n, c.name, k, v)
						}
						l = append(l, k)
					}
					if !slices.Equal(l, c.want) || !slices.Equal(yielded(t, c.s), c.want) {
						t.Errorf("%s of %d, %s: %v, want %v", name, n, c.name, l, c.want)
					}
					if got, want := listed(m.All()), listed(other.All()); got != want {
						t.Errorf("%s of %d, %s: afterwards %s, want %s", name, n, c.name, got, want)
					}
				}
			}
		}
	}
}

// P8.4: an iterator is of the time of its call, and so is each of many, however far the map has gone on.
func TestIteratorsOfManyTimes(t *testing.T) {
	m := omap.New[int, int](cmp.Compare)
	var calls []iter.Seq2[int, int]
	var want []string
	for i, k := range mixed(300, 5) {
		if i%3 == 2 {
			m.Delete(k / 2)
		} else {
			m.Set(k/2, i)
		}
		calls = append(calls, m.All(), m.From(k))
		want = append(want, listed(m.All()), listed(m.From(k)))
	}
	for i, s := range calls {
		if got := listed(s); got != want[i] {
			t.Fatalf("iterator %d yields %s, want %s", i, got, want[i])
		}
	}
}

// P8.4: a copy has what the map has, also its order; what is done to one of them is not seen in the other one, nor in its iterators.
func TestCopy(t *testing.T) {
	for name, change := range changes {
		for n := 1; n < 14; n++ {
			for i := range n {
				for _, swap := range []bool{false, true} {
					m := numbers(n)
					c := m.Copy()
					if c == nil || c == m {
						t.Fatalf("the copy of a map of %d is %p", n, c)
					}
					if swap {
						m, c = c, m
					}
					s, before := c.All(), asked(c, []int{-1, i, n})
					change(m, n, i)
					if got := asked(c, []int{-1, i, n}); got != before || listed(s) != listed(numbers(n).All()) {
						t.Errorf("%s of %d: %s, and before %s", name, n, got, before)
					}
					change(c, n, i)
					if got, want := asked(c, []int{-1, i, n}), asked(m, []int{-1, i, n}); got != want {
						t.Errorf("%s of %d: %s, want %s", name, n, got, want)
					}
				}
			}
		}
	}
}

// P8.4: copies of an empty map, of copies, and of maps with other orders, all of which go on by themselves.
func TestCopiesOfCopies(t *testing.T) {
	m := omap.New[string, int](folded)
	a := m.Copy()
	a.Set("B", 1)
	b := a.Copy()
	b.Set("b", 2)
	b.Set("A", 3)
	c := b.Copy()
	c.Delete("B")
	c.Set("C", 4)
	for i, got := range []string{listed(m.All()), listed(a.All()), listed(b.All()), listed(c.All())} {
		if want := []string{"", "B:1", "A:3 B:2", "A:3 C:4"}[i]; got != want {
			t.Errorf("%d: %s, want %s", i, got, want)
		}
	}
	d := filled(decreasing[int], 1, 3).Copy()
	d.Set(2, 9)
	if got := listed(d.All()); got != "3:1 2:9 1:0" {
		t.Error(got)
	}
}

// P8.4: copies that were made all along a long run have what there was, and go on with what the map went on with.
func TestCopiesAlongARun(t *testing.T) {
	m := omap.New[int, int](cmp.Compare)
	type then struct {
		c    *omap.Map[int, int]
		want string
	}
	var copies []then
	keys := mixed(400, 9)
	step := func(m *omap.Map[int, int], i int) {
		if i%4 == 3 {
			m.Delete(keys[i] / 3)
		} else {
			m.Set(keys[i]/3, i)
		}
	}
	for i := range keys {
		step(m, i)
		copies = append(copies, then{m.Copy(), listed(m.All())})
	}
	for i, x := range copies {
		if got := listed(x.c.All()); got != x.want {
			t.Fatalf("copy %d has %s, want %s", i, got, x.want)
		}
	}
	for j, x := range copies {
		for i := j + 1; i < min(len(keys), j+30); i++ {
			step(x.c, i)
		}
		if got, want := listed(x.c.All()), copies[min(j+29, len(keys)-1)].want; got != want {
			t.Fatalf("copy %d goes on to %s, want %s", j, got, want)
		}
	}
}
