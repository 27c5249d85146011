package walk_test

import (
	"slices"
	"testing"

	"redpencil/api"
	"redpencil/walk"
)

// some returns stores of all kinds, not too many of them.
func some() [][]api.Node {
	all := append(stores(), chain(50, root), brothers(50, root), circle(5))
	for i, l := range forests() {
		if i%5 == 0 {
			all = append(all, l)
		}
	}
	return all
}

// P11.4: each node is reached or lost, once, and never both.
func TestReachedOrLost(t *testing.T) {
	for _, l := range some() {
		order, e := walk.Order(l)
		lost, f := walk.Lost(l)
		both := append(dotsOf(order), lost...)
		slices.SortFunc(both, func(a, b api.Dot) int {
			if isBefore(a, b) {
				return -1
			}
			return 1
		})
		if !slices.Equal(both, dotsOf(l)) || e != api.OK || f != api.OK {
			t.Fatalf("of %v, %v are reached, and %v lost", l, order, lost)
		}
		for i := range lost {
			if i > 0 && !isBefore(lost[i-1], lost[i]) {
				t.Fatalf("Lost(%v) = %v, which is no set", l, lost)
			}
		}
	}
}

// P11.4: a node comes after its parent, and directly before its first child; the depth of a child is 1 more.
func TestParentsAndFirstChildren(t *testing.T) {
	for _, l := range some() {
		all := yielded(walk.All(l))
		at := map[api.Dot]int{}
		for i, x := range all {
			at[x.node.Dot] = i
		}
		for i, x := range all {
			depth := 0
			if x.node.Parent != root {
				above, is := at[x.node.Parent]
				if !is || above >= i {
					t.Fatalf("All(%v): %v stands at %d, and its parent at %d, %t", l, x.node, i, above, is)
				}
				depth = all[above].depth + 1
			}
			if x.depth != depth {
				t.Fatalf("All(%v): %v has the depth %d, want %d", l, x.node, x.depth, depth)
			}
			children, e := walk.Children(l, x.node.Dot)
			if e != api.OK || len(children) > 0 && (i+1 >= len(all) || all[i+1].node != children[0]) {
				t.Fatalf("All(%v): behind %v does not stand the first one of %v", l, x.node, children)
			}
		}
		if children, _ := walk.Children(l, root); len(children) != 0 && children[0] != all[0].node || len(children) == 0 && len(all) != 0 {
			t.Fatalf("All(%v) does not begin with the first one of %v", l, children)
		}
	}
}

// P11.4: what is below a node follows directly on it, and it is its children, each with what is below it.
func TestBelowFollowsDirectly(t *testing.T) {
	for _, l := range some() {
		order, _ := walk.Order(l)
		reached := dotsOf(order)
		for i, d := range append([]api.Dot{root}, reached...) {
			below, e := walk.Below(l, d)
			if e != api.OK || i+len(below) > len(reached) || !slices.Equal(below, reached[i:i+len(below)]) {
				t.Fatalf("Below(%v, %v) = %v, %d, and the order is %v", l, d, below, e, reached)
			}
			children, _ := walk.Children(l, d)
			var whole []api.Dot
			for _, n := range children {
				under, _ := walk.Below(l, n.Dot)
				whole = append(append(whole, n.Dot), under...)
			}
			if !slices.Equal(whole, below) {
				t.Fatalf("Below(%v, %v) = %v, and below its children are %v", l, d, below, whole)
			}
		}
	}
}

// P11.4: a path is as long as the depth plus 1, and each dot of it but the first one is that of a child of the one before.
func TestPathsAreAsLongAsDepths(t *testing.T) {
	for _, l := range some() {
		for _, x := range yielded(walk.All(l)) {
			path, e := walk.Path(l, x.node.Dot)
			if len(path) != x.depth+1 || e != api.OK || path[x.depth] != x.node.Dot {
				t.Fatalf("Path(%v, %v) = %v, %d, and the depth is %d", l, x.node.Dot, path, e, x.depth)
			}
			above := root
			for _, d := range path {
				children, _ := walk.Children(l, above)
				if !slices.Contains(dotsOf(children), d) {
					t.Fatalf("Path(%v, %v) = %v, but the children of %v are %v", l, x.node.Dot, path, above, children)
				}
				above = d
			}
		}
	}
}

// P11.4: a node that is added later than all others, alive or dead, stands directly behind its parent, or first of all, and nothing else changes, for its parent is the root or a reached node.
func TestNodesThatAreAdded(t *testing.T) {
	added := 0
	for _, l := range some() {
		order, _ := walk.Order(l)
		lost, _ := walk.Lost(l)
		n := api.Node{Time: 1}
		for _, x := range l {
			n.Time = max(n.Time, x.Time+1)
		}
		for i, parent := range append([]api.Dot{root}, dotsOf(order)...) {
			for _, d := range dots("1.1 3.2 7.7777 64.4294967295") {
				n.Dot, n.Parent, n.Rune = d, parent, rune(d.Replica%2*0x7a)
				// A time may be the last one, so that none is greater; and what was lost because its parent, with this dot, was lacking, is reached then.
				if !isNode(n) || slices.Contains(dotsOf(l), d) || len(kids(l, d)) > 0 {
					continue
				}
				more := with(l, n)
				if out, e := walk.Order(more); !slices.Equal(out, slices.Insert(slices.Clone(order), i, n)) || e != api.OK {
					t.Fatalf("Order(%v) = %v, %d, and without %v %v", more, out, e, n, order)
				}
				if out, e := walk.Lost(more); !slices.Equal(out, lost) || e != api.OK {
					t.Fatalf("Lost(%v) = %v, %d, and without %v %v", more, out, e, n, lost)
				}
				added++
			}
		}
	}
	if added < 3000 {
		t.Errorf("only %d nodes were added", added)
	}
}

// with returns a store with one more node.
func with(l []api.Node, n api.Node) []api.Node {
	at := 0
	for at < len(l) && isBefore(l[at].Dot, n.Dot) {
		at++
	}
	return slices.Insert(slices.Clone(l), at, n)
}

// What is put where it was lacking brings everything below it into the order, directly behind it.
func TestLackingParentsThatCome(t *testing.T) {
	for _, l := range some() {
		for _, d := range dots("9.9 9.999 5.1000 7.1003 10.1002") {
			n := api.Node{Dot: d, Time: api.MaxTime}
			if len(kids(l, d)) == 0 || slices.Contains(dotsOf(l), d) {
				continue
			}
			order, _ := walk.Order(l)
			want := []api.Node{n}
			for _, x := range under(l, d, 1) {
				want = append(want, x.node)
			}
			more := with(l, n)
			if out, e := walk.Order(more); !slices.Equal(out, slices.Concat(want, order)) || e != api.OK {
				t.Fatalf("Order(%v) = %v, %d, want %v in front of %v", more, out, e, want, order)
			}
		}
	}
}

// P11.4: a text that is typed, each character behind any of those that are there, or in front of all, reads as a list into which they were put.
func TestTypedTexts(t *testing.T) {
	for rule := range 20 {
		var l, want []api.Node
		for i := range 80 {
			at := (i*i*rule + i/2) % (len(want) + 1)
			n := api.Node{Dot: api.Dot{Replica: 1 + i*rule%64, Counter: i + 1}, Time: i + 1, Rune: rune(0x61 + i%26)}
			if at > 0 {
				n.Parent = want[at-1].Dot
			}
			l, want = append(l, n), slices.Insert(want, at, n)
		}
		if out, e := walk.Order(l); !slices.Equal(out, want) || e != api.OK {
			t.Fatalf("Order(%v) = %v, %d, want %v", l, out, e, want)
		}
	}
}

// The runes of nodes, and whether these are dead, change nothing in where they stand.
func TestRunesDoNotMatter(t *testing.T) {
	for _, l := range some() {
		other := slices.Clone(l)
		for i := range other {
			other[i].Rune = rune(i % 2 * (0x10ffff - i))
		}
		a, b := yielded(walk.All(l)), yielded(walk.All(other))
		for i := range a {
			if len(b) != len(a) || a[i].node.Dot != b[i].node.Dot || a[i].depth != b[i].depth {
				t.Fatalf("All(%v) yields %v, and with other runes %v", l, a, b)
			}
		}
		lost, _ := walk.Lost(l)
		if out, e := walk.Lost(other); !slices.Equal(out, lost) || e != api.OK {
			t.Fatalf("Lost(%v) = %v, %d, and with other runes %v", l, lost, e, out)
		}
	}
}

// room returns a list with a node behind its end, so that what a call writes there is seen.
func room(l []api.Node) []api.Node { return append(slices.Clone(l), of("7.7 7.6 7 U+0067")) }

// No call changes a list that was handed to it, nor what lies behind its end.
func TestListsStayAsTheyAre(t *testing.T) {
	for _, l := range append(some(), noStores()...) {
		whole := room(l)
		a := whole[:len(l)]
		for _, d := range append(dots("0.0 1.1 9.9 0.1"), dotsOf(l[:min(len(l), 3)])...) {
			walk.Children(a, d)
			walk.Order(a)
			yielded(walk.All(a))
			walk.Lost(a)
			walk.Path(a, d)
			walk.Below(a, d)
		}
		if !slices.Equal(whole, room(l)) {
			t.Fatalf("of %v calls have made %v", l, whole)
		}
	}
}

// Results share no memory with arguments or with other results: what is returned, and the room behind it, may be overwritten.
func TestResultsShareNoMemory(t *testing.T) {
	for _, l := range some() {
		a := slices.Clone(l)
		d := root
		if order, _ := walk.Order(l); len(order) > 0 {
			d = order[len(order)/2].Dot
		}
		var lists [][]api.Node
		var sets [][]api.Dot
		for range 2 {
			children, _ := walk.Children(a, d)
			first, _ := walk.Children(a, root)
			order, _ := walk.Order(a)
			lost, _ := walk.Lost(a)
			path, _ := walk.Path(a, d)
			below, _ := walk.Below(a, d)
			whole, _ := walk.Below(a, root)
			lists = append(lists, children, first, order)
			sets = append(sets, lost, path, below, whole)
		}
		lists = append(lists, a)
		s := walk.All(a)
		want := yielded(s)
		apart(t, lists, of("9.9 8.8 7 -"))
		apart(t, sets, dotOf("9.9"))
		if all := yielded(s); !slices.Equal(all, want) {
			t.Fatalf("All(%v) yields %v after results were overwritten", l, all)
		}
	}
}

// apart overwrites each of some lists, and the room behind it, and fails if another one changes by that.
func apart[T comparable](t *testing.T, lists [][]T, with T) {
	t.Helper()
	for i, l := range lists {
		kept := make([][]T, len(lists))
		for k := range lists {
			kept[k] = slices.Clone(lists[k])
		}
		for at := range l[:cap(l)] {
			l[:cap(l)][at] = with
		}
		for k := range lists {
			if k != i && !slices.Equal(lists[k], kept[k]) {
				t.Fatalf("result %d changed with result %d", k, i)
			}
		}
	}
}

// Nothing depends on earlier calls, nor on the order in which a map is gone over.
func TestEqualCallsHaveEqualResults(t *testing.T) {
	for i, l := range append(some(), noStores()[:40]...) {
		if i%7 != 0 {
			continue
		}
		order, e := walk.Order(l)
		lost, f := walk.Lost(l)
		path, g := walk.Path(l, dotOf("1.1"))
		below, h := walk.Below(l, dotOf("1.1"))
		children, k := walk.Children(l, root)
		for range 5 {
			yielded(walk.All(nodes(chapter)))
			if again, e2 := walk.Order(l); !slices.Equal(again, order) || e2 != e {
				t.Fatalf("Order(%v) = %v, %d, and then %v, %d", l, order, e, again, e2)
			}
			if again, f2 := walk.Lost(l); !slices.Equal(again, lost) || f2 != f {
				t.Fatalf("Lost(%v) = %v, %d, and then %v, %d", l, lost, f, again, f2)
			}
			if again, g2 := walk.Path(l, dotOf("1.1")); !slices.Equal(again, path) || g2 != g {
				t.Fatalf("Path(%v) = %v, %d, and then %v, %d", l, path, g, again, g2)
			}
			if again, h2 := walk.Below(l, dotOf("1.1")); !slices.Equal(again, below) || h2 != h {
				t.Fatalf("Below(%v) = %v, %d, and then %v, %d", l, below, h, again, h2)
			}
			if again, k2 := walk.Children(l, root); !slices.Equal(again, children) || k2 != k {
				t.Fatalf("Children(%v) = %v, %d, and then %v, %d", l, children, k, again, k2)
			}
		}
	}
}

// P1: no call panics, whatever its arguments are, and each of them ends.
func TestEveryCallReturns(t *testing.T) {
	for _, l := range append(some(), noStores()...) {
		yielded(walk.All(l))
		walk.Order(l)
		walk.Lost(l)
		for _, d := range asked(l) {
			walk.Children(l, d)
			walk.Path(l, d)
			walk.Below(l, d)
		}
	}
}
