package walk_test

import (
	"fmt"
	"iter"
	"slices"
	"testing"

	"redpencil/api"
	"redpencil/walk"
)

// P11.1: the examples of the chapter, and some more.
func TestChildren(t *testing.T) {
	for _, c := range []struct{ l, d, want string }{
		{chapter, "root", "1.4 1.1"}, {chapter, "1.1", "2.2 1.2"}, {chapter, "9.9", "3.4"}, {chapter, "5.5", ""},
		{chapter, "1.2", "2.3"}, {chapter, "2.2", ""}, {chapter, "2.3", ""}, {chapter, "3.4", ""}, {chapter, "3.5", "3.6"}, {chapter, "3.6", "3.5"}, {chapter, "64.4294967295", ""},
		{"", "root", ""}, {"", "1.1", ""}, {"1.1 root 1 U+0061", "root", "1.1"}, {"1.1 root 1 U+0061", "1.1", ""}, {"1.1 root 1 -", "root", "1.1"}, {"1.1 2.2 1 -", "root", ""}, {"1.1 2.2 1 -", "2.2", "1.1"}, {"1.1 2.2 1 -", "2.1", ""}, {"1.1 2.2 1 -", "1.2", ""},
		// Decreasing times, and then decreasing dots, whatever else the nodes have.
		{"1.1 root 1 U+0061, 2.1 root 2 U+0061, 3.1 root 3 U+0061", "root", "3.1 2.1 1.1"}, {"1.1 root 3 U+0061, 2.1 root 2 U+0061, 3.1 root 1 U+0061", "root", "1.1 2.1 3.1"}, {"1.1 root 2 -, 2.1 root 3 U+0061, 3.1 root 1 -", "root", "2.1 1.1 3.1"},
		{"1.1 root 5 U+0063, 2.1 root 5 U+0062, 1.2 root 5 U+0061", "root", "1.2 2.1 1.1"}, {"9.1 root 5 -, 10.1 root 5 U+0061, 1.9 root 5 -, 1.10 root 5 -", "root", "1.10 1.9 10.1 9.1"}, {"1.1 root 5 -, 2.1 root 6 U+0061, 1.2 root 5 U+0061, 2.2 root 6 -", "root", "2.2 2.1 1.2 1.1"},
		{"1.1 64.4294967295 1 U+0061, 64.1 64.4294967295 4611686018427387904 -, 1.4294967295 64.4294967295 4611686018427387903 -, 63.4294967295 64.4294967295 1 -, 64.4294967295 64.4294967294 4611686018427387904 U+10FFFF", "64.4294967295", "64.1 1.4294967295 63.4294967295 1.1"},
		{"1.1 64.4294967295 1 U+0061, 64.4294967295 64.4294967294 4611686018427387904 U+10FFFF", "64.4294967294", "64.4294967295"}, {"1.1 3.2 1 -, 2.1 2.3 1 -, 1.2 3.2 1 -, 2.2 root 1 -", "3.2", "1.2 1.1"},
	} {
		l, e := walk.Children(nodes(c.l), dotOf(c.d))
		if !slices.Equal(dotsOf(l), dots(c.want)) || e != api.OK {
			t.Errorf("Children(%s, %s) = %v, %d, want %s", c.l, c.d, l, e, c.want)
		}
		for _, n := range l {
			if !slices.Contains(nodes(c.l), n) {
				t.Errorf("Children(%s, %s) has %v", c.l, c.d, n)
			}
		}
	}
}

// P11.1: a dot must be valid, or the root, and a list a store; also both may be wrong.
func TestChildrenOfWhatIsNotAllowed(t *testing.T) {
	for _, l := range append(noStores(), nil, nodes(chapter)) {
		for _, d := range append(noDots(), dots("0.0 1.1 9.9")...) {
			if isStore(l) && (d == root || isDot(d)) {
				continue
			}
			if out, e := walk.Children(l, d); len(out) != 0 || e != api.ErrArg {
				t.Fatalf("Children(%v, %v) = %v, %d", l, d, out, e)
			}
		}
	}
}

// P11.1
func TestChildrenOfMany(t *testing.T) {
	long := [][]api.Node{chain(300, root), brothers(300, root), brothers(300, dotOf("7.777")), circle(100)}
	for _, l := range slices.Concat(forests(), stores(), long, noStores()) {
		for _, d := range asked(l) {
			want, err := expectedChildren(l, d)
			if out, e := walk.Children(l, d); !slices.Equal(out, want) || e != err {
				t.Fatalf("Children(%v, %v) = %v, %d, want %v, %d", l, d, out, e, want, err)
			}
		}
	}
}

// trees are stores, with the dots in the order of the tree, and the depths.
var trees = []struct{ l, dots, depths string }{
	{chapter, "1.4 1.1 2.2 1.2 2.3", "[0 0 1 1 2]"},
	{"", "", "[]"}, {"1.1 root 1 U+0061", "1.1", "[0]"}, {"1.1 root 1 -", "1.1", "[0]"}, {"1.1 9.9 1 U+0061", "", "[]"}, {"64.4294967295 root 4611686018427387904 U+10FFFF", "64.4294967295", "[0]"}, {"64.4294967295 64.4294967294 1 -", "", "[]"},
	// Brothers, and what is below them; a time counts among brothers only.
	{"1.1 root 1 U+0061, 2.1 root 1 -, 3.1 root 2 U+0061", "3.1 2.1 1.1", "[0 0 0]"}, {"1.1 root 1 U+0061, 1.2 1.1 2 U+0062, 1.3 1.2 3 -, 1.4 1.3 4 U+0063", "1.1 1.2 1.3 1.4", "[0 1 2 3]"}, {"1.1 1.2 9 U+0061, 1.2 1.3 9 -, 1.3 1.4 9 -, 1.4 root 1 U+0062", "1.4 1.3 1.2 1.1", "[0 1 2 3]"},
	{"1.1 root 9 U+0061, 2.1 root 8 U+0061, 1.2 1.1 1 -, 2.2 1.1 7 -, 1.3 2.1 99 U+0061, 2.3 1.2 50 U+0061", "1.1 2.2 1.2 2.3 2.1 1.3", "[0 1 1 2 0 1]"}, {"1.1 root 1 -, 2.1 root 1 -, 1.2 1.1 1 -, 2.2 2.1 1 -, 1.3 1.2 1 -, 2.3 2.2 1 -", "2.1 2.2 2.3 1.1 1.2 1.3", "[0 1 2 0 1 2]"},
	{"1.1 root 1 U+0061, 1.2 1.1 2 U+0062, 1.3 1.2 3 U+0063, 2.3 1.1 3 U+0064, 3.3 root 3 U+0065, 1.4 1.2 4 U+0066", "3.3 1.1 2.3 1.2 1.4 1.3", "[0 0 1 1 2 2]"},
	{"1.1 64.4294967295 4611686018427387904 U+0001, 64.1 1.1 1 -, 1.4294967295 1.1 4611686018427387904 -, 64.4294967295 root 1 U+E000", "64.4294967295 1.1 1.4294967295 64.1", "[0 1 2 2]"},
	// Lacking parents and circles, and all that is below these.
	{"1.1 9.9 1 U+0061, 1.2 1.1 2 U+0061, 1.3 1.2 3 U+0061, 2.3 root 1 U+0061", "2.3", "[0]"}, {"1.1 1.2 1 U+0061, 1.2 1.1 1 U+0062", "", "[]"}, {"1.1 1.2 1 U+0061, 1.2 1.1 1 U+0062, 1.3 1.1 1 U+0061, 1.4 1.3 1 U+0061, 1.5 root 1 -", "1.5", "[0]"}, {"1.1 1.3 1 -, 1.2 1.1 1 -, 1.3 1.2 1 -, 2.3 1.2 5 -, 3.3 2.3 5 -, 4.3 root 1 -, 5.3 4.3 1 -", "4.3 5.3", "[0 1]"},
}

// P11.2: the example of the chapter, and some more.
func TestOrderAndAll(t *testing.T) {
	for _, c := range trees {
		l := nodes(c.l)
		out, e := walk.Order(l)
		if !slices.Equal(dotsOf(out), dots(c.dots)) || e != api.OK {
			t.Errorf("Order(%s) = %v, %d, want %s", c.l, out, e, c.dots)
		}
		depths := []int{}
		var all []api.Node
		for _, x := range yielded(walk.All(l)) {
			depths, all = append(depths, x.depth), append(all, x.node)
		}
		if !slices.Equal(all, out) || fmt.Sprint(depths) != c.depths {
			t.Errorf("All(%s) yields %v, %v, want %s", c.l, all, depths, c.depths)
		}
		for _, n := range out {
			if !slices.Contains(l, n) {
				t.Errorf("Order(%s) has %v", c.l, n)
			}
		}
	}
}

// P11.2: a list that is no store has no order, and All yields nothing, but is there.
func TestOrderOfWhatIsNoStore(t *testing.T) {
	for _, l := range noStores() {
		if out, e := walk.Order(l); len(out) != 0 || e != api.ErrArg {
			t.Errorf("Order(%v) = %v, %d", l, out, e)
		}
		s := walk.All(l)
		if s == nil {
			t.Fatalf("All(%v) is nil", l)
		}
		if all := yielded(s); len(all) != 0 {
			t.Errorf("All(%v) yields %v", l, all)
		}
	}
	for _, none := range [][]api.Node{nil, {}} {
		if out, e := walk.Order(none); len(out) != 0 || e != api.OK || walk.All(none) == nil || len(yielded(walk.All(none))) != 0 {
			t.Errorf("Order of none = %v, %d", out, e)
		}
	}
}

// P11.2
func TestOrderAndAllOfMany(t *testing.T) {
	long := [][]api.Node{chain(300, root), chain(300, dotOf("9.999")), brothers(300, root), brothers(300, dotOf("9.999")), circle(100), circle(2)}
	for _, l := range slices.Concat(forests(), stores(), noStores(), long) {
		want, err := expectedAll(l)
		if all := yielded(walk.All(l)); !slices.Equal(all, want) {
			t.Fatalf("All(%v) yields %v, want %v", l, all, want)
		}
		order, _ := expectedOrder(l)
		if out, e := walk.Order(l); !slices.Equal(out, order) || e != err {
			t.Fatalf("Order(%v) = %v, %d, want %v, %d", l, out, e, order, err)
		}
	}
}

// P11.2: chains of some hundreds of nodes, many brothers, and chains below each of many brothers.
func TestLongChainsAndManyBrothers(t *testing.T) {
	const n = 700
	l := chain(n, root)
	for at, x := range yielded(walk.All(l)) {
		if x.depth != at || x.node != l[at] {
			t.Fatalf("in a chain %v has the depth %d at %d", x.node, x.depth, at)
		}
	}
	if out, e := walk.Order(l); !slices.Equal(out, l) || e != api.OK {
		t.Errorf("the order of a chain is %v, %d", out, e)
	}
	l = brothers(n, root)
	all := yielded(walk.All(l))
	for at, x := range all {
		if x.depth != 0 || at > 0 && !standsFirst(all[at-1].node, x.node) {
			t.Fatalf("among brothers %v has the depth %d at %d", x.node, x.depth, at)
		}
	}
	if len(all) != n {
		t.Errorf("there are %d brothers", len(all))
	}
	// Each brother has two children, one of which has the next brother below it, and so on.
	l = nil
	for i := range n {
		parent := root
		if i > 2 {
			parent = l[i-3].Dot
		}
		l = append(l, api.Node{Dot: api.Dot{Replica: 1 + i%3, Counter: 1 + i/3}, Parent: parent, Time: 1 + i%5, Rune: 0x61})
	}
	want, _ := expectedAll(l)
	if all := yielded(walk.All(l)); !slices.Equal(all, want) || len(all) != n {
		t.Errorf("of three chains beside each other All yields %v", all)
	}
}

// P11.2: so many nodes that a look at all others for each of them would not end in time, nor would calls within calls have room: a chain, and brothers.
func TestVeryManyNodes(t *testing.T) {
	const n = 1 << 16
	deepest := make([]api.Node, n)
	wide := make([]api.Node, n)
	for i := range n {
		d := api.Dot{Replica: i%64 + 1, Counter: i/64 + 1}
		deepest[i] = api.Node{Dot: d, Time: 1, Rune: 0x61}
		if i > 0 {
			deepest[i].Parent = deepest[i-1].Dot
		}
		wide[i] = api.Node{Dot: d, Time: n - i, Rune: 0x61}
	}
	for _, l := range [][]api.Node{deepest, wide} {
		if out, e := walk.Order(l); !slices.Equal(out, l) || e != api.OK {
			t.Errorf("the order of %d nodes has %d, %d", n, len(out), e)
		}
		if out, e := walk.Below(l, root); !slices.Equal(out, dotsOf(l)) || e != api.OK {
			t.Errorf("below the root are %d, %d", len(out), e)
		}
		if out, e := walk.Lost(l); len(out) != 0 || e != api.OK {
			t.Errorf("%d are lost, %d", len(out), e)
		}
	}
	if out, e := walk.Path(deepest, deepest[n-1].Dot); !slices.Equal(out, dotsOf(deepest)) || e != api.OK {
		t.Errorf("the path has %d dots, %d", len(out), e)
	}
	deepest[0].Parent = deepest[n-1].Dot
	if out, e := walk.Lost(deepest); !slices.Equal(out, dotsOf(deepest)) || e != api.OK {
		t.Errorf("in a circle of %d %d are lost, %d", n, len(out), e)
	}
}

// P11.2: the loop over All may stop anywhere, and nothing is yielded any more; the next loop begins anew.
func TestAllStops(t *testing.T) {
	for _, l := range append(stores(), chain(40, root), brothers(40, root), circle(3)) {
		want, _ := expectedAll(l)
		s := walk.All(l)
		for stop := range len(want) + 2 {
			var all []deep
			s(func(depth int, n api.Node) bool {
				all = append(all, deep{depth, n})
				return len(all) <= stop
			})
			if !slices.Equal(all, want[:min(stop+1, len(want))]) {
				t.Fatalf("All(%v) yields %v with a stop at %d", l, all, stop)
			}
		}
		for range 3 {
			if all := yielded(s); !slices.Equal(all, want) {
				t.Fatalf("All(%v) once more yields %v, want %v", l, all, want)
			}
		}
	}
}

// P11.2: loops in each other over one iterator, and two that go on by turns.
func TestLoopsOverOneIterator(t *testing.T) {
	l := grown(20, 3)
	want, _ := expectedAll(l)
	s := walk.All(l)
	outer := 0
	for depth, n := range s {
		if (deep{depth, n}) != want[outer] || !slices.Equal(yielded(s), want) {
			t.Fatalf("at %d the loops have %d, %v", outer, depth, n)
		}
		outer++
	}
	a, stopA := iter.Pull2(s)
	defer stopA()
	b, stopB := iter.Pull2(s)
	defer stopB()
	a()
	for i := range want {
		if depth, n, is := b(); !is || (deep{depth, n}) != want[i] {
			t.Errorf("%d: %d, %v, %t", i, depth, n, is)
		}
		depth, n, is := a()
		if there := i+1 < len(want); is != there || there && (deep{depth, n}) != want[i+1] {
			t.Errorf("%d: %d, %v, %t", i+1, depth, n, is)
		}
	}
}

// P11.2: All yields what there was when it was called, whatever the caller does to the list before the loop, or within it.
func TestAllYieldsWhatThereWas(t *testing.T) {
	for _, l := range append(stores(), chain(30, root), brothers(30, root)) {
		want, _ := expectedAll(l)
		mine := slices.Clone(l)
		before, within := walk.All(mine), walk.All(mine)
		at := 0
		for depth, n := range within {
			if at == 0 {
				for i := range mine {
					mine[i] = of("9.9 8.8 7 -")
				}
			}
			if (deep{depth, n}) != want[at] {
				t.Fatalf("All(%v) yields %d, %v at %d, after the list has changed", l, depth, n, at)
			}
			at++
		}
		if all := yielded(before); at != len(want) || !slices.Equal(all, want) {
			t.Fatalf("All(%v) yields %v, after the list has changed", l, all)
		}
	}
	bad := nodes("1.2 root 1 U+0061, 1.1 root 1 U+0062")
	s := walk.All(bad)
	bad[0], bad[1] = bad[1], bad[0]
	if all := yielded(s); len(all) != 0 {
		t.Errorf("All of what was no store yields %v", all)
	}
}
