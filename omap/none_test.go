package omap_test

import (
	"cmp"
	"fmt"
	"math"
	"testing"

	"redpencil/omap"
)

// P8.1: there is no map without an order, whatever its types are.
func TestNewOfNoOrder(t *testing.T) {
	var none func(a, b string) int
	if m := omap.New[string, int](none); m != nil {
		t.Errorf("New(nil) = %v", m)
	}
	if m := omap.New[[]int, any](nil); m != nil {
		t.Errorf("New(nil) = %v", m)
	}
	if m := omap.New[struct{}, struct{}](nil); m != nil {
		t.Errorf("New(nil) = %v", m)
	}
}

// P8.1 to P8.4: a nil and a zero map have nothing, whatever they are asked, and stay so, whatever they are told.
func TestNoMap(t *testing.T) {
	var zero omap.Map[string, int]
	want := "0: \n"
	for _, i := range []int{math.MinInt, -1, -2, -1, 1, math.MaxInt, 0} {
		want += fmt.Sprintf("at %d:  0 false\n", i)
	}
	want += ": 0 false, rank 0, floor  0 false, ceil  0 false, from \na: 0 false, rank 0, floor  0 false, ceil  0 false, from \n"
	for name, m := range map[string]*omap.Map[string, int]{"nil": nil, "zero": &zero, "new": new(omap.Map[string, int]), "no order": omap.New[string, int](nil)} {
		for _, k := range []string{"", "a", "a", "\xff"} {
			if old, was := m.Set(k, 5); old != 0 || was {
				t.Errorf("%s: Set(%q) = %d, %t", name, k, old, was)
			}
			if m.Delete(k) {
				t.Errorf("%s: Delete(%q) = true", name, k)
			}
			m.Set(k, 6)
			if got := asked(m, []string{"", "a"}); got != want {
				t.Errorf("%s: %s", name, got)
			}
			if c := m.Copy(); c != nil {
				t.Errorf("%s: Copy() = %v", name, c)
			}
		}
		if m.All() == nil || m.From("a") == nil {
			t.Errorf("%s: there is no iterator", name)
		}
		for range 2 {
			for k, v := range m.All() {
				t.Errorf("%s: All yields %q, %d", name, k, v)
			}
			for k, v := range m.From("") {
				t.Errorf("%s: From yields %q, %d", name, k, v)
			}
		}
	}
}

// P8.4: the iterators of an empty map, and those that begin behind all keys, are there, too.
func TestIteratorsAreThere(t *testing.T) {
	empty, one := omap.New[int, int](cmp.Compare), numbers(1)
	if empty.All() == nil || empty.From(0) == nil || one.All() == nil || one.From(5) == nil {
		t.Error("there is no iterator")
	}
}

// everyCall makes each call of a map with a key, and writes the results.
func everyCall[K any](m *omap.Map[K, int], k K) string {
	old, was := m.Set(k, 99)
	v, is := m.Get(k)
	got := words(old, was, v, is, m.Delete(k), m.Rank(k), m.Len())
	at, v, is := m.Floor(k)
	got += ", " + words(at, v, is)
	at, v, is = m.Ceil(k)
	return got + ", " + words(at, v, is) + ", " + listed(m.From(k)) + ", " + listed(m.All())
}

// P1: where the order can't be asked about a key, and panics, nothing is found, and nothing changes.
func TestOrderThatPanics(t *testing.T) {
	m := filled(func(a, b any) int { return a.(int) - b.(int) }, any(1), any(3), any(2))
	for _, k := range []any{"a", nil, 2.5, []int{1}} {
		if got, want := everyCall(m, k), "0 false 0 false false 0 3, <nil> 0 false, <nil> 0 false, , 1:0 2:2 3:1"; got != want {
			t.Errorf("%v: %s, want %s", k, got, want)
		}
	}
	if got := everyCall(m, any(2)); got != "2 true 99 true true 1 2, 1 0 true, 3 1 true, 3:1, 1:0 3:1" {
		t.Error(got)
	}
	pointers := omap.New[*int, int](func(a, b *int) int { return *a - *b })
	one := 1
	pointers.Set(&one, 7)
	if old, was := pointers.Set(nil, 8); old != 0 || was || pointers.Len() != 1 {
		t.Error(old, was, pointers.Len())
	}
	late := 0
	tired := filled(func(a, b int) int {
		if late++; late > 40 {
			panic("no more")
		}
		return a - b
	}, 5, 2, 8, 1, 9, 4)
	for k := range 60 {
		tired.Set(k%12, k)
		tired.Delete((k + 3) % 12)
	}
	if n := tired.Len(); n < 1 || n != len(sorted(tired)) {
		t.Errorf("there are %d keys", n)
	}
}

// sorted returns the keys of a map, which must increase.
func sorted(m *omap.Map[int, int]) []int {
	var l []int
	for k := range m.All() {
		if len(l) > 0 && l[len(l)-1] >= k {
			return nil
		}
		l = append(l, k)
	}
	return l
}

// P1: functions that are no orders, because they do not fit together, and numbers at the limits: each call returns, and there are as many keys as Len says.
func TestFunctionsThatAreNoOrders(t *testing.T) {
	turn := 0
	for name, compare := range map[string]func(a, b int) int{
		"before": func(a, b int) int { return -1 },
		"after":  func(a, b int) int { return 1 },
		"same":   func(a, b int) int { return 0 },
		"least":  func(a, b int) int { return math.MinInt },
		"most":   func(a, b int) int { return math.MaxInt },
		"circle": func(a, b int) int { return (a-b+9)%3 - 1 },
		"turns": func(a, b int) int {
			turn++
			return turn*7%5 - 2
		},
	} {
		m := omap.New[int, int](compare)
		for k := range 300 {
			for _, f := range []func(){func() { m.Set(k, k) }, func() { everyCall(m, k/2) }, func() { m.Set(-k, k) }} {
				f()
				n := 0
				for range m.All() {
					n++
				}
				if n != m.Len() {
					t.Fatalf("%s: %d keys, but Len is %d", name, n, m.Len())
				}
			}
			for _, i := range []int{math.MinInt, -1, 0, m.Len() / 2, m.Len() - 1, m.Len(), math.MaxInt} {
				if _, _, is := m.At(i); is != (i >= 0 && i < m.Len()) {
					t.Fatalf("%s: At(%d) of %d: %t", name, i, m.Len(), is)
				}
			}
		}
	}
}

// P8.1 to P8.3: only the sign of what the order returns matters, up to the limits of numbers.
func TestOnlySignsMatter(t *testing.T) {
	limits := func(a, b int) int { return [3]int{math.MinInt, 0, math.MaxInt}[cmp.Compare(a, b)+1] }
	var calls []told[int, int]
	for i, k := range mixed(40, 8) {
		calls = append(calls, told[int, int]{i%3 > 0, k / 2, i})
	}
	follow(t, omap.New[int, int](limits), &heap[int, int]{compare: limits}, calls, []int{-1, 0, 3, 9, 19, 20}, 1)
}

// P1: an order that takes keys out of the map that it is asked by does not lead a call astray.
func TestOrderThatChangesTheMap(t *testing.T) {
	var m *omap.Map[int, int]
	still := true
	compare := func(a, b int) int {
		if !still {
			still = true
			m.Delete(b)
			m.Delete(b + 2)
			still = false
		}
		return cmp.Compare(a, b)
	}
	for n := range 24 {
		for k := range 2*n + 1 {
			for name, call := range map[string]func(){"Set": func() { m.Set(k, -1) }, "Delete": func() { m.Delete(k) }, "others": func() { everyCall(m, k) }} {
				m = omap.New[int, int](compare)
				for i := range n {
					m.Set(2*i, i)
				}
				still = false
				call()
				still = true
				if l := sorted(m); len(l) != m.Len() {
					t.Fatalf("%s with %d of %d: %s", name, k, n, listed(m.All()))
				}
			}
		}
	}
}
