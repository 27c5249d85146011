package shape_test

import (
	"math"
	"slices"
	"testing"

	"redpencil/api"
	"redpencil/shape"
)

// lasts is the store of the greatest dots and times.
const lasts = "64.4294967294 root 4611686018427387903 U+10FFFF, 64.4294967295 64.4294967294 4611686018427387904 -"

// flawed are lists, each with its faults.
var flawed = []struct{ l, faults string }{
	// The examples of the chapter.
	{"a, b", ""}, {"", ""}, {"a, b, c, d, e", "2 time, 3 parent"}, {"b", "0 parent"}, {"a, a", "1 order"}, {"b, a", "1 order"}, {"a, 1.2 1.2 1 -", "1 node"},
	{"a", ""}, {"a, c", "1 time"}, {"d", "0 parent"}, {"a, b, e", "2 parent"}, {"1.1 root 1 -", ""}, {lasts, ""},

	// A node that is not valid: first, in the middle, last, alone, all.
	{"0.1 root 1 -", "0 node"}, {"1.1 root 0 -, b, 1.3 1.2 3 -", "0 node"}, {"a, 1.2 1.1 2 U+D800, 1.3 1.2 3 -", "1 node"}, {"a, b, 1.3 1.2 4611686018427387905 -", "2 node"}, {"1.1 root 0 -, 1.2 root -1 -, 1.3 1.3 1 -", "0 node, 1 node, 2 node"}, {"root root 1 -", "0 node"}, {"a, 65.1 1.1 2 -", "1 node"}, {"a, 1.4294967296 1.1 2 -", "1 node"}, {"a, 1.2 1.0 2 -", "1 node"}, {"a, 1.2 0.1 2 -", "1 node"}, {"1.1 root 1 U+110000", "0 node"}, {"1.1 1.1 1 -", "0 node"},
	// A dot that does not come after the one before: never first, but in the middle, last, all but the first one.
	{"a, a, b", "1 order"}, {"2.1 root 1 -, a, 1.2 1.1 2 -", "1 order"}, {"a, 1.3 1.1 2 -, b", "2 order"}, {"a, b, b", "2 order"}, {"1.4 root 1 -, 1.3 root 1 -, 1.2 root 1 -, 1.1 root 1 -", "1 order, 2 order, 3 order"}, {"a, a, a", "1 order, 2 order"}, {"10.1 root 1 -, 9.1 root 1 -", "1 order"}, {"1.10 root 1 -, 1.9 root 1 -", "1 order"}, {"64.1 root 1 -, 1.2 root 1 -", ""}, {"64.4294967295 root 1 -, 63.4294967295 root 1 -", "1 order"}, {"1.1 root 1 -, 2.1 root 1 -, 3.1 root 1 -, 1.2 root 1 -", ""},
	// What comes before is the node directly before, and not the greatest one so far, whatever is wrong with it.
	{"1.9 root 1 -, a, b", "1 order"}, {"1.9 root 1 -, a, 1.8 root 1 -, b", "1 order, 3 order"}, {"1.9 root 0 -, a, b", "0 node, 1 order"}, {"root root 1 -, a", "0 node"}, {"-1.-1 root 1 -, a", "0 node"}, {"9223372036854775807.9223372036854775807 root 1 -, a", "0 node, 1 order"}, {"65.1 root 1 -, 1.1 root 1 -", "0 node, 1 order"}, {"0.1 root 1 -, 1.1 root 1 -", "0 node"},
	// A parent that is lacking: first, in the middle, last, all; only the very dot is the parent.
	{"1.1 9.9 1 -, b", "0 parent"}, {"a, 1.2 9.9 2 -, 1.3 1.2 3 -", "1 parent"}, {"a, b, 1.3 9.9 3 -", "2 parent"}, {"1.1 9.9 1 -, 1.2 8.8 1 -, 1.3 64.4294967295 1 -", "0 parent, 1 parent, 2 parent"}, {"1.2 root 1 -, 1.3 2.1 2 -", "1 parent"}, {"2.1 root 1 -, 2.2 1.1 2 -", "1 parent"}, {"2.1 root 1 -, 2.2 2.3 2 -", "1 parent"}, {"64.4294967294 root 1 -, 64.4294967295 63.4294967294 2 -", "1 parent"},
	// A time that is not greater than the parent's: equal, less, at the limits; a parent that comes later in the list.
	{"a, 1.2 1.1 1 -, 1.3 1.2 2 -", "1 time"}, {"1.1 root 5 -, 1.2 1.1 5 -", "1 time"}, {"1.1 root 5 -, 1.2 1.1 4 -", "1 time"}, {"1.1 root 5 -, 1.2 1.1 6 -", ""}, {"1.1 root 4611686018427387904 -, 1.2 1.1 1 -", "1 time"}, {"1.1 root 4611686018427387904 -, 1.2 1.1 4611686018427387904 -", "1 time"}, {"1.1 root 4611686018427387903 -, 1.2 1.1 4611686018427387904 -", ""}, {"1.1 root 1 -, 1.2 1.1 4611686018427387904 -", ""}, {"1.1 root 4294967296 -, 1.2 1.1 4294967295 -", "1 time"}, {"1.1 root 4294967295 -, 1.2 1.1 4294967296 -", ""},
	{"1.1 1.2 2 -, 1.2 root 1 -", ""}, {"1.1 1.2 2 -, 1.2 root 2 -", "0 time"}, {"1.1 1.2 2 -, 1.2 root 3 -", "0 time"}, {"1.1 1.3 3 -, 1.2 1.1 4 -, 1.3 root 2 -", ""}, {"1.1 64.4294967295 2 -, 64.4294967295 root 1 -", ""}, {"1.1 64.4294967295 1 -, 64.4294967295 root 1 -", "0 time"},
	// Children of the root have any time, and so have several of them.
	{"1.1 root 4611686018427387904 -, 2.1 root 1 -, 3.1 root 4611686018427387904 U+0061", ""}, {"1.1 root 9 -, 1.2 root 5 -, 1.3 root 1 -", ""},
	// Circles: one of their nodes, at least, has a time that is not greater.
	{"1.1 1.2 1 -, 1.2 1.1 2 -", "0 time"}, {"1.1 1.2 2 -, 1.2 1.1 1 -", "1 time"}, {"1.1 1.2 2 -, 1.2 1.1 2 -", "0 time, 1 time"}, {"1.1 1.3 9 -, 1.2 1.1 10 -, 1.3 1.2 11 -", "0 time"}, {"1.1 1.3 1 -, 1.2 1.1 1 -, 1.3 1.2 1 -", "0 time, 1 time, 2 time"},

	// Several flaws: the first one counts.
	{"b, 1.1 9.9 0 -", "1 node"}, {"a, 1.1 1.1 1 -", "1 node"}, {"b, 1.1 9.9 1 -", "1 order"}, {"b, 1.1 1.2 1 -", "1 order"}, {"b, 1.1 1.2 2 -", "0 time, 1 order"}, {"2.1 root 5 -, 1.1 2.1 5 -", "1 order"}, {"a, a, 1.1 9.9 1 -, 1.1 2.2 0 -", "1 order, 2 order, 3 node"}, {"a, 0.1 9.9 1 -", "1 node"}, {"a, 1.2 1.1 -1 -", "1 node"},
	// A flaw of a parent is none of its children: they are only measured against its dot and its time.
	{"1.1 root 0 -, 1.2 1.1 1 -", "0 node"}, {"1.1 root -9223372036854775808 -, 1.2 1.1 1 -", "0 node"}, {"1.1 root 4611686018427387905 -, 1.2 1.1 4611686018427387904 -", "0 node, 1 time"}, {"1.1 root 5 U+D800, 1.2 1.1 5 -, 1.3 1.1 6 -", "0 node, 1 time"}, {"1.1 9.9 1 -, 1.2 1.1 2 -, 1.3 1.2 3 -", "0 parent"}, {"a, c, 1.3 2.2 2 -, 1.4 1.3 3 -", "1 time"}, {"1.1 1.1 1 -, 1.2 1.1 2 -", "0 node"},
	// Of several nodes with the parent's dot the first one counts, before or behind the child.
	{"1.1 root 1 -, 1.1 root 5 -, 1.2 1.1 2 -", "1 order"}, {"1.1 root 5 -, 1.1 root 1 -, 1.2 1.1 2 -", "1 order, 2 time"}, {"1.1 root 1 -, 1.1 root 5 -, 1.1 root 9 -, 1.2 1.1 2 -", "1 order, 2 order"}, {"1.1 root 9 -, 1.1 root 5 -, 1.1 root 1 -, 1.2 1.1 2 -", "1 order, 2 order, 3 time"}, {"1.1 root 2 -, 1.1 root 1 -, 1.1 root 3 -, 1.2 1.1 2 -", "1 order, 2 order, 3 time"},
	{"1.1 1.2 3 -, 1.2 root 2 -, 1.2 root 4 -", "2 order"}, {"1.1 1.2 3 -, 1.2 root 4 -, 1.2 root 2 -", "0 time, 2 order"}, {"1.1 root 1 -, 1.2 1.1 2 -, 1.1 root 7 -", "2 order"}, {"1.1 root 7 -, 1.2 1.1 2 -, 1.1 root 1 -", "1 time, 2 order"}, {"1.1 root 0 -, 1.1 root 9 -, 1.2 1.1 5 -", "0 node, 1 order"}, {"1.1 root 9 U+D800, 1.1 root 1 -, 1.2 1.1 5 -", "0 node, 1 order, 2 time"},
	// The zero dot is the root, also where a node, which is not valid, has it: that one's time does not count.
	{"root root 9 -, 1.1 root 1 -", "0 node"}, {"1.1 root 1 -, root root 9 -, 1.2 root 1 -", "1 node"},
}

// P13.1: the examples of the chapter, and some more.
func TestWellFirstAndFaults(t *testing.T) {
	for _, c := range flawed {
		l, want := nodes(c.l), faults(c.faults)
		first := api.Fault{Index: -1, Flaw: api.FlawNone}
		if len(want) > 0 {
			first = want[0]
		}
		if f := shape.Faults(l); !slices.Equal(f, want) {
			t.Errorf("Faults(%s) = %v, want %s", c.l, f, c.faults)
		}
		if f := shape.First(l); f != first {
			t.Errorf("First(%s) = %v, want %v", c.l, f, first)
		}
		if is := shape.Well(l); is != (len(want) == 0) {
			t.Errorf("Well(%s) = %t, and there are the faults %s", c.l, is, c.faults)
		}
	}
}

// P13.1: no nodes are well-formed, however they are written.
func TestNoNodes(t *testing.T) {
	for _, l := range [][]api.Node{nil, {}} {
		if !shape.Well(l) || shape.First(l) != (api.Fault{Index: -1}) || len(shape.Faults(l)) != 0 {
			t.Errorf("of none: %t, %v, %v", shape.Well(l), shape.First(l), shape.Faults(l))
		}
	}
}

// compare fails if one of the functions that take any lists returns something else than it has to for a list.
func compare(t *testing.T, l []api.Node) {
	t.Helper()
	want, first := expectedFaults(l), expectedFirst(l)
	if f := shape.Faults(l); !slices.Equal(f, want) {
		t.Fatalf("Faults(%v) = %v, want %v", l, f, want)
	}
	if f := shape.First(l); f != first {
		t.Fatalf("First(%v) = %v, want %v", l, f, first)
	}
	if is := shape.Well(l); is != (len(want) == 0) {
		t.Fatalf("Well(%v) = %t, and there are the faults %v", l, is, want)
	}
}

// P13.1: all small stores, and longer ones, and lists that are no stores, with each number of faults.
func TestFaultsOfMany(t *testing.T) {
	counts, seen := map[int]int{}, map[api.Flaw]int{}
	for _, l := range append(everything(), smallStores()...) {
		compare(t, l)
		all := expectedFaults(l)
		counts[len(all)]++
		for _, f := range all {
			seen[f.Flaw]++
		}
	}
	for n := range 4 {
		if counts[n] < 500 {
			t.Errorf("only %d lists have %d faults", counts[n], n)
		}
	}
	for f := api.FlawNode; f <= api.FlawTime; f++ {
		if seen[f] < 500 {
			t.Errorf("only %d faults are %d", seen[f], f)
		}
	}
}

// P13.1: each flaw of one node alone, at each place of stores that have no other one, where it is possible.
func TestOneFlaw(t *testing.T) {
	for _, good := range [][]api.Node{chain(9), backward(chain(9)), mixed(chain(20)), arms(4, 3), mixed(arms(3, 5))} {
		compare(t, good)
		for at, n := range good {
			for _, bad := range noNodes() {
				l := slices.Clone(good)
				l[at].Rune, l[at].Time = bad.Rune, bad.Time
				if isNode(l[at]) {
					l[at].Parent = n.Dot
				}
				compare(t, l)
			}
			for _, l := range [][]api.Node{spoilt(good, at, api.FlawParent), spoilt(good, at, api.FlawTime), slices.Insert(slices.Clone(good), at, n)} {
				compare(t, l)
				if f := shape.Faults(l); len(f) > 1 || len(f) == 1 && f[0].Index != at && f[0].Index != at+1 {
					t.Fatalf("Faults(%v) = %v, and something is wrong at %d only", l, f, at)
				}
			}
			if at > 0 {
				l := slices.Clone(good)
				l[at], l[at-1] = l[at-1], l[at]
				compare(t, l)
			}
		}
	}
}

// P13.1: numbers at all limits, also those of the numbers themselves.
func TestFaultsAtTheLimits(t *testing.T) {
	numbers := []int{math.MinInt, -1, 0, 1, 2, 63, 64, 65, api.MaxCounter - 1, api.MaxCounter, api.MaxCounter + 1, api.MaxTime - 1, api.MaxTime, api.MaxTime + 1, math.MaxInt}
	above := of("64.4294967295 root 4611686018427387903 -")
	for _, a := range numbers {
		for _, b := range numbers {
			for _, l := range [][]api.Node{
				{{Dot: api.Dot{Replica: a, Counter: b}, Time: 1}, above},
				{above, {Dot: api.Dot{Replica: a, Counter: b}, Time: 1}},
				{{Dot: dotOf("1.1"), Parent: api.Dot{Replica: a, Counter: b}, Time: api.MaxTime}, above},
				{{Dot: dotOf("1.1"), Parent: dotOf("1.2"), Time: a}, {Dot: dotOf("1.2"), Time: b}},
				{{Dot: dotOf("1.1"), Time: a}, {Dot: dotOf("1.2"), Parent: dotOf("1.1"), Time: b}},
			} {
				compare(t, l)
			}
		}
	}
}

// P13.3: each of the words, and the numbers that are no flaw.
func TestWord(t *testing.T) {
	for f, want := range []string{"none", "node", "order", "parent", "time"} {
		if s := shape.Word(api.Flaw(f)); s != want {
			t.Errorf("Word(%d) = %q, want %q", f, s, want)
		}
	}
	if shape.Word(api.FlawNone) != "none" || shape.Word(api.FlawNode) != "node" || shape.Word(api.FlawOrder) != "order" || shape.Word(api.FlawParent) != "parent" || shape.Word(api.FlawTime) != "time" {
		t.Error("the names of the flaws have other words")
	}
	for _, f := range []int{5, 6, 7, 100, 255, 256, 260, 1<<16 + 1, 1 << 31, 1<<32 - 1, 1 << 32, 1<<32 + 4, 1 << 62, math.MaxInt - 1, math.MaxInt, -1, -2, -4, -5, -256, -1 << 31, -1<<32 + 1, -1 << 32, math.MinInt, math.MinInt + 1, math.MinInt + 4} {
		if s := shape.Word(api.Flaw(f)); s != "" {
			t.Errorf("Word(%d) = %q", f, s)
		}
	}
}
