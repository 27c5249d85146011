package store_test

import (
	"slices"
	"testing"

	"redpencil/api"
	"redpencil/store"
)

// alike reports whether two contexts are equal in all parts.
func alike(a, b api.Context) bool {
	return slices.Equal(a.Vector, b.Vector) && slices.Equal(a.Cloud, b.Cloud)
}

// P10.3: the examples of the chapter, and some more.
func TestContextAndDead(t *testing.T) {
	for _, c := range []struct{ l, all, dead string }{
		{"a, b, c", "1.1 / 2.2 1.3", "- / 1.3"},
		{"", "- / -", "- / -"}, {"a", "1.1 / -", "- / -"}, {"1.1 root 1 -", "1.1 / -", "1.1 / -"}, {"a, b", "1.1 / 2.2", "- / -"}, {"c", "- / 1.3", "- / 1.3"}, {"b, c", "- / 2.2 1.3", "- / 1.3"},
		// Gaps, and what comes behind them; parents do not count.
		{"a, 2.1 1.1 2 -, 1.2 2.1 3 U+0061, 2.2 1.2 4 -, 1.3 2.2 5 -", "1.3 2.2 / -", "2.2 / 1.3"}, {"a, 1.2 3.1 1 -, 1.4 5.5 1 U+0061, 1.5 root 1 -, 1.7 root 1 -", "1.2 / 1.4 1.5 1.7", "- / 1.2 1.5 1.7"}, {"2.1 root 1 -, 10.1 root 1 -", "2.1 10.1 / -", "2.1 10.1 / -"}, {"10.1 root 1 -, 2.2 root 1 -, 10.2 root 1 -, 2.3 root 1 U+0061", "10.2 / 2.2 2.3", "10.2 / 2.2"},
		{"64.1 root 1 -, 64.4294967294 root 4611686018427387904 U+10FFFF, 64.4294967295 root 4611686018427387904 -", "64.1 / 64.4294967294 64.4294967295", "64.1 / 64.4294967295"}, {"1.4294967295 root 1 U+0061, 64.4294967295 root 1 -", "- / 1.4294967295 64.4294967295", "- / 64.4294967295"},
	} {
		if all, e := store.Context(nodes(c.l)); !alike(all, ctx(c.all)) || e != api.OK {
			t.Errorf("Context(%s) = %v, %d, want %s", c.l, all, e, c.all)
		}
		if dead, e := store.Dead(nodes(c.l)); !alike(dead, ctx(c.dead)) || e != api.OK {
			t.Errorf("Dead(%s) = %v, %d, want %s", c.l, dead, e, c.dead)
		}
	}
}

// P10.4: the examples of the chapter, and some more.
func TestTime(t *testing.T) {
	for _, c := range []struct {
		l    string
		time int
	}{
		{"a, b, c", 7}, {"", 0},
		{"a", 1}, {"c", 7}, {"a, b", 2}, {"1.1 root 9 U+0061, 2.1 root 3 U+0061, 3.1 root 8 -", 9}, {"1.1 root 3 U+0061, 2.1 root 9 U+0061, 3.1 root 8 -", 9}, {"1.1 root 3 U+0061, 2.1 root 8 U+0061, 3.1 root 9 -", 9}, {"1.1 root 5 -, 1.2 root 5 -", 5}, {"1.99 root 1 -", 1},
		{"1.1 root 4611686018427387904 -, 1.2 root 1 U+0061", 4611686018427387904}, {"1.1 root 4294967295 -, 1.2 root 4611686018427387903 U+0061", 4611686018427387903}, {"1.1 root 4294967296 -, 1.2 root 4294967295 U+0061", 4294967296},
	} {
		if time, e := store.Time(nodes(c.l)); time != c.time || e != api.OK {
			t.Errorf("Time(%s) = %d, %d, want %d", c.l, time, e, c.time)
		}
	}
}

// P10.4: the examples of the chapter, and some more.
func TestLacking(t *testing.T) {
	for _, c := range []struct{ l, dots string }{
		{"a, b, c", "9.9"},
		{"", ""}, {"a", ""}, {"a, b", ""}, {"b", "1.1"}, {"b, c", "1.1 9.9"}, {"c", "9.9"}, {"1.1 root 1 -, b", ""},
		// Several nodes with one parent, and several parents, in the order of dots.
		{"1.1 9.9 1 U+0061, 2.1 9.9 1 -, 1.2 9.9 1 U+0062", "9.9"}, {"1.1 9.9 1 U+0061, 2.1 8.9 1 -, 1.2 9.9 1 U+0062, 2.2 10.8 1 -, 1.3 2.2 1 -, 2.3 3.1 1 -", "3.1 10.8 8.9 9.9"}, {"1.1 2.1 1 -, 1.2 1.10 1 -, 1.3 1.9 1 -", "2.1 1.9 1.10"},
		// A parent that comes later is there, too, and only the very dot is.
		{"1.1 1.2 1 -, 1.2 1.1 1 -", ""}, {"1.1 1.3 1 -, 3.1 1.1 1 -, 2.2 3.1 1 -", "1.3"}, {"1.1 1.2 1 -, 2.1 root 1 -", "1.2"}, {"1.2 2.1 1 -, 1.3 1.2 1 -", "2.1"},
		{"1.1 64.4294967295 1 -, 2.1 64.4294967294 1 -, 3.1 1.4294967295 1 U+0061", "64.4294967294 1.4294967295 64.4294967295"}, {"1.1 64.4294967295 1 -, 64.4294967295 64.4294967294 1 -", "64.4294967294"}, {"64.4294967295 1.1 1 -", "1.1"},
	} {
		if l, e := store.Lacking(nodes(c.l)); !slices.Equal(l, dots(c.dots)) || e != api.OK {
			t.Errorf("Lacking(%s) = %v, %d, want %s", c.l, l, e, c.dots)
		}
	}
}

// P10.3 and P10.4: an example of the chapter, and others: a list that is no store has no contexts, no time and no parents.
func TestTheWholeOfWhatIsNoStore(t *testing.T) {
	for _, l := range append(noStores(), nodes("b, a")) {
		if c, e := store.Context(l); !alike(c, api.Context{}) || e != api.ErrArg {
			t.Errorf("Context(%v) = %v, %d", l, c, e)
		}
		if c, e := store.Dead(l); !alike(c, api.Context{}) || e != api.ErrArg {
			t.Errorf("Dead(%v) = %v, %d", l, c, e)
		}
		if time, e := store.Time(l); time != 0 || e != api.ErrArg {
			t.Errorf("Time(%v) = %d, %d", l, time, e)
		}
		if dots, e := store.Lacking(l); len(dots) != 0 || e != api.ErrArg {
			t.Errorf("Lacking(%v) = %v, %d", l, dots, e)
		}
	}
}

// P10.3 and P10.4
func TestTheWholeOfMany(t *testing.T) {
	for _, l := range slices.Concat(stores(), noStores(), lists()) {
		want, err := expectedContext(l, false)
		if c, e := store.Context(l); !alike(c, want) || e != err {
			t.Fatalf("Context(%v) = %v, %d, want %v, %d", l, c, e, want, err)
		}
		want, _ = expectedContext(l, true)
		if c, e := store.Dead(l); !alike(c, want) || e != err {
			t.Fatalf("Dead(%v) = %v, %d, want %v, %d", l, c, e, want, err)
		}
		time, _ := expectedTime(l)
		if n, e := store.Time(l); n != time || e != err {
			t.Fatalf("Time(%v) = %d, %d, want %d, %d", l, n, e, time, err)
		}
		lacking, _ := expectedLacking(l)
		if d, e := store.Lacking(l); !slices.Equal(d, lacking) || e != err {
			t.Fatalf("Lacking(%v) = %v, %d, want %v, %d", l, d, e, lacking, err)
		}
	}
}

// P10.4: many parents come in order each time, whatever the order is in which they are found.
func TestLackingIsInOrder(t *testing.T) {
	var l []api.Node
	var want []api.Dot
	for i := range 500 {
		l = append(l, api.Node{Dot: api.Dot{Replica: 1, Counter: i + 1}, Parent: api.Dot{Replica: i*i%63 + 2, Counter: i*37%500 + 1}, Time: 1})
		want = append(want, l[i].Parent)
	}
	slices.SortFunc(want, inOrder)
	want = slices.Compact(want)
	for range 20 {
		if d, e := store.Lacking(l); !slices.Equal(d, want) || e != api.OK {
			t.Fatalf("Lacking = %v, %d", d, e)
		}
	}
}
