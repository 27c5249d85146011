package omap_test

import (
	"bytes"
	"cmp"
	"fmt"
	"math"
	"slices"
	"strings"
	"testing"

	"redpencil/api"
	"redpencil/omap"
)

// P8.1 to P8.4: the examples of the chapter, in the order in which they stand there.
func TestExamples(t *testing.T) {
	m := omap.New[int, string](cmp.Compare)
	for i, c := range []struct{ got, want string }{
		{words(m.Set(5, "a")), " false"}, {words(m.Set(2, "b")), " false"}, {words(m.Set(5, "c")), "a true"}, {words(m.Get(5)), "c true"}, {words(m.Get(3)), " false"}, {words(m.Len()), "2"}, {listed(m.All()), "2:b 5:c"},
		{words(m.At(0)), "2 b true"}, {words(m.At(2)), "0  false"}, {words(m.Rank(5)), "1"}, {words(m.Rank(3)), "1"}, {words(m.Floor(4)), "2 b true"}, {words(m.Floor(1)), "0  false"}, {words(m.Ceil(3)), "5 c true"}, {words(m.Ceil(6)), "0  false"}, {listed(m.From(3)), "5:c"},
		{words(m.Delete(2)), "true"}, {words(m.Delete(2)), "false"}, {words(m.Len()), "1"}, {words(omap.New[int, string](nil) == nil), "true"},
	} {
		if c.got != c.want {
			t.Errorf("%d: %q, want %q", i, c.got, c.want)
		}
	}
}

// P8.1: a map begins without keys, and answers with nothing, whatever it is asked.
func TestNewMapIsEmpty(t *testing.T) {
	m := omap.New[string, int](strings.Compare)
	if m == nil {
		t.Fatal("New returns nil")
	}
	want := "0: \n"
	for _, i := range []int{math.MinInt, -1, -2, -1, 1, math.MaxInt, 0} {
		want += fmt.Sprintf("at %d:  0 false\n", i)
	}
	want += ": 0 false, rank 0, floor  0 false, ceil  0 false, from \na: 0 false, rank 0, floor  0 false, ceil  0 false, from \n"
	if got := asked(m, []string{"", "a"}); got != want {
		t.Errorf("%s\nwant:\n%s", got, want)
	}
	if m.Delete("") || m.Delete("a") || m.Len() != 0 {
		t.Error("something was deleted")
	}
}

// P8.1: one key that comes, changes its value, goes, and comes again.
func TestOneKey(t *testing.T) {
	m := omap.New[int, string](cmp.Compare)
	for i, c := range []struct {
		call told[int, string]
		want string
		len  int
	}{
		{told[int, string]{false, 7, ""}, "false", 0}, {told[int, string]{true, 7, "a"}, " false", 1}, {told[int, string]{true, 7, "b"}, "a true", 1}, {told[int, string]{true, 7, "b"}, "b true", 1}, {told[int, string]{false, 6, ""}, "false", 1}, {told[int, string]{false, 8, ""}, "false", 1}, {told[int, string]{false, 7, ""}, "true", 0}, {told[int, string]{false, 7, ""}, "false", 0}, {told[int, string]{true, 7, "c"}, " false", 1},
	} {
		if got := c.call.to(m); got != c.want || m.Len() != c.len {
			t.Errorf("%d, %v: %s, and then %d keys", i, c.call, got, m.Len())
		}
	}
	want := "1: 7:c\n"
	for _, i := range []int{math.MinInt, -2, -2, -1, 2, math.MaxInt} {
		want += fmt.Sprintf("at %d: 0  false\n", i)
	}
	want += "at 0: 7 c true\nat 1: 0  false\n" +
		"6:  false, rank 0, floor 0  false, ceil 7 c true, from 7:c\n" +
		"7: c true, rank 0, floor 7 c true, ceil 7 c true, from 7:c\n" +
		"8:  false, rank 1, floor 7 c true, ceil 0  false, from \n"
	if got := asked(m, []int{6, 7, 8}); got != want {
		t.Errorf("%s\nwant:\n%s", got, want)
	}
}

// P8.1: whether a key is there is not told by its value, which may be the zero value, as the key may.
func TestZeroKeysAndValues(t *testing.T) {
	m := omap.New[int, int](cmp.Compare)
	if old, was := m.Set(0, 0); old != 0 || was {
		t.Error(old, was)
	}
	if v, is := m.Get(0); v != 0 || !is {
		t.Error(v, is)
	}
	if old, was := m.Set(0, 0); old != 0 || !was {
		t.Error(old, was)
	}
	if old, was := m.Set(0, 5); old != 0 || !was {
		t.Error(old, was)
	}
	if old, was := m.Set(0, 0); old != 5 || !was {
		t.Error(old, was)
	}
	for name, f := range map[string]func() (int, int, bool){"At": func() (int, int, bool) { return m.At(0) }, "Floor": func() (int, int, bool) { return m.Floor(3) }, "Ceil": func() (int, int, bool) { return m.Ceil(-3) }} {
		if k, v, is := f(); k != 0 || v != 0 || !is {
			t.Error(name, k, v, is)
		}
	}
	if !m.Delete(0) || m.Delete(0) || m.Len() != 0 {
		t.Error("0 is still there")
	}
}

// P8.1: the first and the last key, keys in between, and keys that are not there are set and deleted.
func TestSetAndDelete(t *testing.T) {
	for _, k := range []int{-1, 0, 1, 2, 3, 7, 8, 9, 10} {
		m, h := numbers(9), &heap[int, int]{compare: cmp.Compare[int]}
		for i := range 9 {
			h.Set(i, 10*i)
		}
		follow(t, m, h, []told[int, int]{{true, k, -5}, {true, k, -6}, {false, k, 0}, {false, k, 0}, {true, k, -7}, {false, k, 0}}, []int{-2, -1, 0, 1, 4, 7, 8, 9, 10, 11}, 1)
	}
}

// P8.1: the old key stays when its value changes, also when the new one is written otherwise; after it was deleted the new one comes.
func TestOldKeyStays(t *testing.T) {
	m := filled(folded, "Bee", "ant", "Cat")
	if old, was := m.Set("BEE", 7); old != 0 || !was {
		t.Error(old, was)
	}
	if old, was := m.Set("cAT", 8); old != 2 || !was {
		t.Error(old, was)
	}
	if got := listed(m.All()); got != "ant:1 Bee:7 Cat:8" {
		t.Error(got)
	}
	for _, s := range []string{"bee", "BEE", "Bee", "bEE"} {
		if v, is := m.Get(s); v != 7 || !is || m.Rank(s) != 1 {
			t.Error(s, v, is, m.Rank(s))
		}
		if k, v, is := m.Floor(s); k != "Bee" || v != 7 || !is {
			t.Error(s, k, v, is)
		}
		if k, v, is := m.Ceil(s); k != "Bee" || v != 7 || !is {
			t.Error(s, k, v, is)
		}
		if got := listed(m.From(s)); got != "Bee:7 Cat:8" {
			t.Error(s, got)
		}
	}
	if k, v, is := m.At(1); k != "Bee" || v != 7 || !is {
		t.Error(k, v, is)
	}
	if !m.Delete("bee") || m.Delete("Bee") {
		t.Error("Delete takes the key away once, however it is written")
	}
	if old, was := m.Set("bEe", 9); old != 0 || was {
		t.Error(old, was)
	}
	if got := listed(m.All()); got != "ant:1 bEe:9 Cat:8" {
		t.Error(got)
	}
}

// P8.2: indices below 0, at the first and the last key, and behind it.
func TestAt(t *testing.T) {
	for n := range 20 {
		m := numbers(n)
		for i := -3; i < n+3; i++ {
			k, v, is := m.At(i)
			if there := i >= 0 && i < n; is != there || is && (k != i || v != 10*i) || !is && (k != 0 || v != 0) {
				t.Errorf("of %d, At(%d) = %d, %d, %t", n, i, k, v, is)
			}
		}
		for _, i := range []int{math.MinInt, math.MinInt + 1, math.MinInt + n, -1 << 32, 1 << 32, math.MaxInt - n, math.MaxInt - 1, math.MaxInt} {
			if k, v, is := m.At(i); k != 0 || v != 0 || is {
				t.Errorf("of %d, At(%d) = %d, %d, %t", n, i, k, v, is)
			}
		}
		if m.Len() != n {
			t.Errorf("Len() = %d, want %d", m.Len(), n)
		}
	}
}

// P8.2, P8.3: keys that are there, and keys before, between and behind them, with gaps of one number and of several.
func TestRankFloorAndCeil(t *testing.T) {
	keys := []int{3, 5, 6, 10, 20, 21}
	m := filled(cmp.Compare, keys...)
	for k := 1; k < 24; k++ {
		before, is := slices.BinarySearch(keys, k)
		if got := m.Rank(k); got != before {
			t.Errorf("Rank(%d) = %d, want %d", k, got, before)
		}
		floor := before - 1
		if is {
			floor = before
		}
		for name, c := range map[string]struct {
			f func(int) (int, int, bool)
			i int
		}{"Floor": {m.Floor, floor}, "Ceil": {m.Ceil, before}} {
			at, v, is := c.f(k)
			if there := c.i >= 0 && c.i < len(keys); is != there || is && (at != keys[c.i] || v != c.i) || !is && (at != 0 || v != 0) {
				t.Errorf("%s(%d) = %d, %d, %t", name, k, at, v, is)
			}
		}
	}
}

// P8.1 to P8.4: in a decreasing order what comes before is greater.
func TestDecreasingOrder(t *testing.T) {
	m := filled(decreasing[int], 2, 9, 5)
	for i, c := range []struct{ got, want string }{
		{listed(m.All()), "9:1 5:2 2:0"}, {words(m.At(0)), "9 1 true"}, {words(m.At(2)), "2 0 true"}, {words(m.Rank(9)), "0"}, {words(m.Rank(10)), "0"}, {words(m.Rank(4)), "2"}, {words(m.Rank(1)), "3"}, {words(m.Floor(4)), "5 2 true"}, {words(m.Floor(10)), "0 0 false"}, {words(m.Floor(1)), "2 0 true"}, {words(m.Ceil(4)), "2 0 true"}, {words(m.Ceil(10)), "9 1 true"}, {words(m.Ceil(1)), "0 0 false"}, {listed(m.From(6)), "5:2 2:0"}, {listed(m.From(5)), "5:2 2:0"}, {listed(m.From(1)), ""}, {listed(m.Copy().All()), "9:1 5:2 2:0"},
	} {
		if c.got != c.want {
			t.Errorf("%d: %q, want %q", i, c.got, c.want)
		}
	}
}

// kinds holds a map with keys of a type against a heap, with each way to set and delete some of them; what is not set is asked for, too.
func kinds[K, V any](t *testing.T, compare func(a, b K) int, set []K, others []K, values ...V) {
	t.Helper()
	var calls []told[K, V]
	for i := range 3 * len(set) {
		calls = append(calls, told[K, V]{true, set[i*5%len(set)], values[i%len(values)]})
	}
	for i, k := range slices.Concat(others, set, set) {
		calls = append(calls, told[K, V]{k: k}, told[K, V]{true, set[i*3%len(set)], values[i%len(values)]})
	}
	follow(t, omap.New[K, V](compare), &heap[K, V]{compare: compare}, calls, slices.Concat(set, others), 1)
}

// P8.1 to P8.4: keys and values of many types, also of some that can't be keys of Go's own maps, and keys that are not what they are compared by.
func TestKeysAndValuesOfSeveralTypes(t *testing.T) {
	kinds(t, cmp.Compare, []int{5, math.MinInt, 0, math.MaxInt}, []int{-1, 1}, "a", "", "bc")
	kinds(t, decreasing, []uint8{0, 255, 7, 8}, []uint8{1, 254}, 1.5, 0, -2)
	kinds(t, strings.Compare, []string{"b", "", "a\x00", "é"}, []string{"a", "z"}, 'a', 'é', 0)
	kinds(t, folded, []string{"B", "a", "b", "A"}, []string{"", "AA", "aA"}, true, false)
	kinds(t, byTens, []int{5, 9, 12, 19, 30}, []int{-10, 1, 25, 35}, 1, 2, 3)
	kinds(t, cmp.Compare, []float64{0, math.Inf(1), math.NaN(), -1.5}, []float64{math.Inf(-1), 0.5}, struct{}{})
	kinds(t, bytes.Compare, [][]byte{{1}, nil, {1, 2}, {0}}, [][]byte{{}, {2}}, []int{1, 2}, nil, []int{3})
	kinds(t, slices.Compare, [][]int{{1}, nil, {1, 2}, {0}}, [][]int{{}, {2}}, map[int]int{1: 2}, nil)
	kinds(t, byDots, []api.Dot{{Replica: 1, Counter: 2}, {Replica: 2, Counter: 1}, {}, {Replica: 2, Counter: 2}}, []api.Dot{{Replica: 1, Counter: 1}}, api.Node{}, api.Node{Time: 5, Rune: 'a'})
	kinds(t, func(a, b [2]int) int { return a[1] - b[1] }, [][2]int{{1, 2}, {2, 1}, {3, 2}, {0, 0}}, [][2]int{{1, 3}}, [3]string{"a"}, [3]string{})
	kinds(t, func(a, b any) int { return len(fmt.Sprint(a)) - len(fmt.Sprint(b)) }, []any{1, "abc", nil, []int{4}}, []any{"", 1 << 40}, any(nil), 5, "a", any(api.ErrNone))
	kinds(t, func(a, b struct{}) int { return 0 }, []struct{}{{}}, []struct{}{{}}, 1, 2, 3)
	one, two := new(int), new(int)
	*two = 1
	kinds(t, func(a, b *int) int { return *a - *b }, []*int{two, one}, []*int{new(int)}, one, nil, two)
}

// byDots is the order of dots.
func byDots(a, b api.Dot) int {
	return cmp.Or(cmp.Compare(a.Counter, b.Counter), cmp.Compare(a.Replica, b.Replica))
}

// P8.1: values are kept as they are, also those that can't be compared, and what they point at is that of the caller.
func TestValuesAreKeptAsTheyAre(t *testing.T) {
	functions := omap.New[int, func() int](cmp.Compare)
	for i := range 10 {
		functions.Set(i, func() int { return i * i })
	}
	n := 0
	for _, f := range functions.All() {
		n += f()
	}
	if n != 285 {
		t.Errorf("the functions return %d together", n)
	}
	shared := []int{1, 2, 3}
	lists := omap.New[int, []int](cmp.Compare)
	lists.Set(1, shared)
	c := lists.Copy()
	shared[0] = 9
	for _, m := range []*omap.Map[int, []int]{lists, c} {
		if v, is := m.Get(1); !is || len(v) != 3 || &v[0] != &shared[0] {
			t.Errorf("Get(1) = %v, %t", v, is)
		}
	}
}

// P8.1: a map of maps, each of which changes for itself.
func TestMapOfMaps(t *testing.T) {
	m := omap.New[string, *omap.Map[int, int]](strings.Compare)
	m.Set("a", numbers(3))
	m.Set("b", numbers(2))
	m.Set("c", nil)
	inner, _ := m.Get("a")
	inner.Delete(1)
	got := ""
	for k, v := range m.All() {
		got += k + " " + listed(v.All()) + "; "
	}
	if got != "a 0:0 2:20; b 0:0 1:10; c ; " {
		t.Error(got)
	}
}
