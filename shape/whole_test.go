package shape_test

import (
	"slices"
	"testing"

	"redpencil/api"
	"redpencil/shape"
)

// P13.2: the examples of the chapter, and some more.
func TestWhole(t *testing.T) {
	for _, c := range []struct{ l, want string }{
		{"a, b, c, d, e", "a, b"},
		{"", ""}, {"a", "a"}, {"1.1 root 1 -", "1.1 root 1 -"}, {"b", ""}, {"a, b", "a, b"}, {"a, c", "a"}, {"b, c", ""}, {"d", ""}, {"a, d", "a"}, {"d, e", ""}, {lasts, lasts},
		// A chain of which the first, the second, a middle, the last node has a flaw: a parent that is lacking, or a time.
		{"1.1 9.9 1 -, 1.2 1.1 2 -, 1.3 1.2 3 -, 1.4 1.3 4 -", ""}, {"1.1 root 1 -, 1.2 9.9 2 -, 1.3 1.2 3 -, 1.4 1.3 4 -", "1.1 root 1 -"}, {"1.1 root 1 -, 1.2 1.1 2 -, 1.3 9.9 3 -, 1.4 1.3 4 -", "1.1 root 1 -, 1.2 1.1 2 -"}, {"1.1 root 1 -, 1.2 1.1 2 -, 1.3 1.2 3 -, 1.4 9.9 4 -", "1.1 root 1 -, 1.2 1.1 2 -, 1.3 1.2 3 -"},
		{"1.1 root 1 -, 1.2 1.1 1 -, 1.3 1.2 3 -, 1.4 1.3 4 -", "1.1 root 1 -"}, {"1.1 root 1 -, 1.2 1.1 2 -, 1.3 1.2 2 -, 1.4 1.3 4 -", "1.1 root 1 -, 1.2 1.1 2 -"}, {"1.1 root 1 -, 1.2 1.1 2 -, 1.3 1.2 3 -, 1.4 1.3 3 -", "1.1 root 1 -, 1.2 1.1 2 -, 1.3 1.2 3 -"},
		// The same the other way round: a parent comes later.
		{"1.1 1.2 4 -, 1.2 1.3 3 -, 1.3 1.4 2 -, 1.4 root 1 -", "1.1 1.2 4 -, 1.2 1.3 3 -, 1.3 1.4 2 -, 1.4 root 1 -"}, {"1.1 1.2 4 -, 1.2 1.3 3 -, 1.3 1.4 2 -, 1.4 9.9 1 -", ""}, {"1.1 1.2 4 -, 1.2 1.3 3 -, 1.3 9.9 2 -, 1.4 root 1 -", "1.4 root 1 -"}, {"1.1 1.2 4 -, 1.2 1.3 3 -, 1.3 1.4 2 -, 1.4 root 2 -", "1.4 root 2 -"}, {"1.1 1.2 4 -, 1.2 9.9 3 -, 1.3 1.4 2 -, 1.4 root 1 -", "1.3 1.4 2 -, 1.4 root 1 -"}, {"1.1 1.2 3 -, 1.2 1.3 3 -, 1.3 1.4 2 -, 1.4 root 1 -", "1.2 1.3 3 -, 1.3 1.4 2 -, 1.4 root 1 -"},
		// To and fro.
		{"1.1 1.4 2 -, 1.2 1.3 4 -, 1.3 1.1 3 -, 1.4 root 1 -", "1.1 1.4 2 -, 1.2 1.3 4 -, 1.3 1.1 3 -, 1.4 root 1 -"}, {"1.1 1.4 2 -, 1.2 1.3 4 -, 1.3 1.1 3 -, 1.4 9.9 1 -", ""}, {"1.1 1.4 2 -, 1.2 1.3 4 -, 1.3 1.1 2 -, 1.4 root 1 -", "1.1 1.4 2 -, 1.4 root 1 -"},
		// Brothers and what is below these: only what hangs below the flaw goes.
		{"1.1 root 1 U+0061, 1.2 1.1 1 U+0062, 2.2 1.1 2 U+0063, 1.3 1.2 9 U+0064, 2.3 2.2 3 U+0065, 1.4 1.3 10 -", "1.1 root 1 U+0061, 2.2 1.1 2 U+0063, 2.3 2.2 3 U+0065"}, {"1.1 root 1 -, 2.1 9.9 1 -, 3.1 root 1 -, 1.2 1.1 2 -, 2.2 2.1 2 -, 3.2 3.1 2 -", "1.1 root 1 -, 3.1 root 1 -, 1.2 1.1 2 -, 3.2 3.1 2 -"},
		// All nodes have a flaw, and those that have none hang below others: circles, what is below them, and beside them.
		{"1.1 9.9 1 -, 1.2 8.8 2 -, 1.3 7.7 3 -", ""}, {"1.1 1.2 1 -, 1.2 1.1 2 -", ""}, {"1.1 1.2 2 -, 1.2 1.1 1 -", ""}, {"1.1 1.2 1 -, 1.2 1.1 1 -", ""}, {"1.1 1.3 1 -, 1.2 1.1 2 -, 1.3 1.2 3 -, 1.4 1.3 4 -, 1.5 root 1 -", "1.5 root 1 -"}, {"1.1 1.3 3 -, 1.2 1.1 1 -, 1.3 1.2 2 -, 1.4 1.1 4 -, 1.5 1.4 5 -, 2.5 1.6 5 -, 1.6 root 4 -", "2.5 1.6 5 -, 1.6 root 4 -"},
		// Times and dots at their limits.
		{"1.1 64.4294967295 4611686018427387904 U+0061, 64.4294967295 root 4611686018427387903 -", "1.1 64.4294967295 4611686018427387904 U+0061, 64.4294967295 root 4611686018427387903 -"}, {"1.1 64.4294967295 4611686018427387904 U+0061, 64.4294967295 root 4611686018427387904 -", "64.4294967295 root 4611686018427387904 -"}, {"1.1 root 4611686018427387904 -, 2.1 root 4611686018427387904 -, 1.2 1.1 1 -", "1.1 root 4611686018427387904 -, 2.1 root 4611686018427387904 -"},
	} {
		if l, e := shape.Whole(nodes(c.l)); !slices.Equal(l, nodes(c.want)) || e != api.OK {
			t.Errorf("Whole(%s) = %v, %d, want %s", c.l, l, e, c.want)
		}
	}
}

// P13.2: an example of the chapter, and others: a list that is no store has no whole part.
func TestWholeOfWhatIsNoStore(t *testing.T) {
	for _, l := range noStores() {
		if whole, e := shape.Whole(l); len(whole) != 0 || e != api.ErrArg {
			t.Errorf("Whole(%v) = %v, %d", l, whole, e)
		}
	}
	for _, none := range [][]api.Node{nil, {}} {
		if whole, e := shape.Whole(none); len(whole) != 0 || e != api.OK {
			t.Errorf("Whole of none = %v, %d", whole, e)
		}
	}
}

// P13.2: all small stores, and longer ones, and lists that are no stores.
func TestWholeOfMany(t *testing.T) {
	left, seen := map[int]int{}, map[api.Errno]int{}
	for _, l := range append(everything(), smallStores()...) {
		want, err := expectedWhole(l)
		if whole, e := shape.Whole(l); !slices.Equal(whole, want) || e != err {
			t.Fatalf("Whole(%v) = %v, %d, want %v, %d", l, whole, e, want, err)
		}
		left[len(l)-len(want)]++
		seen[err]++
	}
	for n := range 5 {
		if left[n] < 500 {
			t.Errorf("of only %d lists %d nodes are not whole", left[n], n)
		}
	}
	if seen[api.OK] < 500 || seen[api.ErrArg] < 500 || len(seen) != 2 {
		t.Errorf("the errors were %v", seen)
	}
}

// P13.2: of a chain, in each order, what stands above a flaw is whole, wherever that is, and whichever it is.
func TestWholeOfChains(t *testing.T) {
	for _, size := range []int{1, 2, 3, 4, 5, 8, 9, 31, 32, 33, 100} {
		for _, l := range [][]api.Node{chain(size), backward(chain(size)), mixed(chain(size))} {
			downwards := slices.SortedFunc(slices.Values(l), func(a, b api.Node) int { return a.Time - b.Time })
			for depth, n := range downwards {
				for _, f := range []api.Flaw{api.FlawParent, api.FlawTime} {
					bad := spoilt(l, slices.Index(l, n), f)
					want := inOrder(downwards[:depth])
					if f == api.FlawTime && n.Parent == root {
						want = l
					}
					if whole, e := shape.Whole(bad); !slices.Equal(whole, want) || e != api.OK {
						t.Fatalf("Whole(%v) = %v, %d, want %v", bad, whole, e, want)
					}
				}
			}
		}
	}
}

// inOrder returns nodes in the order of their dots.
func inOrder(l []api.Node) []api.Node {
	return slices.SortedFunc(slices.Values(l), func(a, b api.Node) int {
		if isBefore(a.Dot, b.Dot) {
			return -1
		}
		return 1
	})
}

// P13.2: long chains in each order, as texts are; where a node goes, all go that hang far below it.
func TestWholeOfLongChains(t *testing.T) {
	const size = 1 << 16
	for _, l := range [][]api.Node{chain(size), backward(chain(size)), mixed(chain(size))} {
		if whole, e := shape.Whole(l); !slices.Equal(whole, l) || e != api.OK || !shape.Well(l) {
			t.Fatalf("%d of %d nodes are whole, %d", len(whole), size, e)
		}
		for _, above := range []int{0, 1, size / 2, size - 1} {
			at := slices.IndexFunc(l, func(n api.Node) bool { return n.Time == 1+2*above })
			bad := spoilt(l, at, api.FlawParent)
			whole, e := shape.Whole(bad)
			if len(whole) != above || e != api.OK || !shape.Well(whole) || slices.ContainsFunc(whole, func(n api.Node) bool { return n.Time > 2*above }) {
				t.Fatalf("%d nodes of %d are whole, %d, want %d", len(whole), size, e, above)
			}
			if f := shape.Faults(bad); !slices.Equal(f, []api.Fault{{Index: at, Flaw: api.FlawParent}}) {
				t.Fatalf("of %d nodes there are the faults %v, want one at %d", size, f, at)
			}
		}
	}
}
