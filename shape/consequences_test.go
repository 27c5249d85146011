package shape_test

import (
	"slices"
	"testing"

	"redpencil/api"
	"redpencil/shape"
	"redpencil/store"
	"redpencil/walk"
)

// P13.4: a well-formed list is a store without lacking parents, of which no node is lost.
func TestWellFormedListsAreStores(t *testing.T) {
	well := 0
	for _, l := range append(everything(), smallStores()...) {
		if !shape.Well(l) {
			continue
		}
		lacking, e := store.Lacking(l)
		lost, f := walk.Lost(l)
		order, g := walk.Order(l)
		if !isStore(l) || !store.Valid(l) || len(lacking) != 0 || len(lost) != 0 || len(order) != len(l) || e != api.OK || f != api.OK || g != api.OK {
			t.Fatalf("%v is well-formed, and lacks %v, %d, and loses %v, %d, and %v, %d, are reached", l, lacking, e, lost, f, order, g)
		}
		well++
	}
	if well < 1000 {
		t.Errorf("only %d lists were well-formed", well)
	}
}

// P13.4: a store is well-formed just if no parent is lacking in it, and none has a time that is not less than that of its child.
func TestTimesAndLackingParents(t *testing.T) {
	for _, l := range append(stores(), smallStores()...) {
		byDot := map[api.Dot]api.Node{}
		for _, n := range l {
			byDot[n.Dot] = n
		}
		late := false
		for _, n := range l {
			above, is := byDot[n.Parent]
			late = late || is && above.Time >= n.Time
		}
		lacking, _ := store.Lacking(l)
		if is := shape.Well(l); is != (len(lacking) == 0 && !late) {
			t.Fatalf("Well(%v) = %t, and there are the lacking parents %v, and times that are wrong: %t", l, is, lacking, late)
		}
	}
}

// P13.4: the whole part of a store is a well-formed part of it, in order, which has itself as its whole part; and that of a well-formed store is the store.
func TestWholePartsAreWellFormed(t *testing.T) {
	for _, l := range append(everything(), smallStores()...) {
		whole, e := shape.Whole(l)
		if (e == api.OK) != store.Valid(l) {
			t.Fatalf("Whole(%v) = %v, %d", l, whole, e)
		}
		if !shape.Well(whole) || !isPart(whole, l) {
			t.Fatalf("Whole(%v) = %v, which is no well-formed part of it: %v", l, whole, shape.Faults(whole))
		}
		if again, e := shape.Whole(whole); !slices.Equal(again, whole) || e != api.OK {
			t.Fatalf("Whole(%v) = %v, and of this %v, %d", l, whole, again, e)
		}
		if shape.Well(l) && !slices.Equal(whole, l) {
			t.Fatalf("Whole(%v) = %v, and it is well-formed", l, whole)
		}
	}
}

// isPart reports whether all nodes of a list are in another one.
func isPart(a, b []api.Node) bool {
	return !slices.ContainsFunc(a, func(n api.Node) bool { return !slices.Contains(b, n) })
}

// P13.4: each well-formed part of a store is a part of its whole part: all parts of small stores.
func TestWellFormedPartsAreParts(t *testing.T) {
	well := 0
	for _, l := range append(small(4, []int{1, 2}), small(3, []int{1, 2, 3})...) {
		whole, _ := shape.Whole(l)
		for which := range 1 << len(l) {
			part := partOf(l, which)
			if !shape.Well(part) {
				continue
			}
			if !isPart(part, whole) {
				t.Fatalf("Whole(%v) = %v, and %v is a well-formed part of it, too", l, whole, part)
			}
			well++
		}
	}
	if well < 20000 {
		t.Errorf("only %d parts were well-formed", well)
	}
}

// P13.4: the same of longer stores, of which some nodes are left out, one at a time or many, and all that hangs below these, too.
func TestWellFormedPartsOfLongerStores(t *testing.T) {
	for _, l := range stores() {
		whole, _ := shape.Whole(l)
		for rule := range 2*len(l) + 1 {
			part := slices.Clone(l)
			if rule < len(l) {
				part = slices.Delete(part, rule, rule+1)
			} else {
				part = partOf(l, rule*rule*7919)
			}
			more, e := shape.Whole(part)
			if !isPart(more, whole) || e != api.OK || shape.Well(part) && !isPart(part, whole) {
				t.Fatalf("Whole(%v) = %v, and of the part %v it is %v, %d", l, whole, part, more, e)
			}
		}
	}
}

// partOf returns some nodes of a list, as the bits of a number say, the first sixteen of which are read again and again.
func partOf(l []api.Node, which int) []api.Node {
	var part []api.Node
	for i, n := range l {
		if which>>(i%16)&1 == 1 {
			part = append(part, n)
		}
	}
	return part
}

// P13.1: the faults stand by increasing indices, each once, the first one of them is First, none of them means that a list is well-formed, and each has a word.
func TestFaultsAreInOrder(t *testing.T) {
	for _, l := range append(everything(), smallStores()...) {
		all, first := shape.Faults(l), shape.First(l)
		for i, f := range all {
			if f.Index < 0 || f.Index >= len(l) || i > 0 && all[i-1].Index >= f.Index || f.Flaw == api.FlawNone || shape.Word(f.Flaw) == "" {
				t.Fatalf("Faults(%v) = %v", l, all)
			}
		}
		if len(all) > 0 && first != all[0] || len(all) == 0 && first != (api.Fault{Index: -1, Flaw: api.FlawNone}) || shape.Well(l) != (len(all) == 0) {
			t.Fatalf("First(%v) = %v, Well = %t, Faults = %v", l, first, shape.Well(l), all)
		}
	}
}

// A node with a fault is not whole, and of a store with one fault only all others that are not whole hang below it.
func TestFaultsAndWholeParts(t *testing.T) {
	for _, l := range append(stores(), smallStores()...) {
		whole, _ := shape.Whole(l)
		all := shape.Faults(l)
		for _, f := range all {
			if slices.Contains(whole, l[f.Index]) {
				t.Fatalf("Whole(%v) = %v, and there is the fault %v", l, whole, f)
			}
		}
		if len(all) != 1 {
			continue
		}
		gone := map[api.Dot]bool{l[all[0].Index].Dot: true}
		for range l {
			for _, n := range l {
				if gone[n.Parent] {
					gone[n.Dot] = true
				}
			}
		}
		if len(gone)+len(whole) != len(l) {
			t.Fatalf("Whole(%v) = %v, and there is the fault %v only", l, whole, all)
		}
	}
}

// P13.1 and P13.2: dead nodes count as others do: runes that may be in a text, or none, change no fault, and no whole part.
func TestRunesDoNotMatter(t *testing.T) {
	for _, l := range append(stores(), small(4, []int{1, 2})...) {
		other := slices.Clone(l)
		for i := range other {
			other[i].Rune = letter(i + int(other[i].Rune))
		}
		if f, g := shape.Faults(l), shape.Faults(other); !slices.Equal(f, g) {
			t.Fatalf("Faults(%v) = %v, and with other runes %v", l, f, g)
		}
		a, e := shape.Whole(l)
		b, f := shape.Whole(other)
		if len(a) != len(b) || e != f {
			t.Fatalf("Whole(%v) = %v, %d, and with other runes %v, %d", l, a, e, b, f)
		}
		for i := range a {
			if b[i].Rune = a[i].Rune; a[i] != b[i] {
				t.Fatalf("Whole(%v) = %v, and with other runes %v", l, a, b)
			}
		}
	}
}

// room returns a list with nodes behind its end, so that what a call writes there is seen.
func room(l []api.Node) []api.Node {
	return append(slices.Clone(l), nodes("7.7 7.6 7 U+0067, 8.8 root 1 -")...)
}

// everyCall calls every function with a list, and with flaws near to its indices.
func everyCall(l []api.Node) {
	shape.Well(l)
	shape.First(l)
	shape.Faults(l)
	shape.Whole(l)
	for i := range l {
		shape.Word(api.Flaw(i - 1))
	}
}

// No call changes a list that was handed to it, nor what lies behind its end; and none reads that.
func TestListsStayAsTheyAre(t *testing.T) {
	for _, l := range everything() {
		whole := room(l)
		a := whole[:len(l)]
		everyCall(a)
		if !slices.Equal(whole, room(l)) {
			t.Fatalf("of %v calls have made %v", l, whole)
		}
		compare(t, a)
	}
}

// Results share no memory with arguments or with other results: what is returned, and the room behind it, may be overwritten.
func TestResultsShareNoMemory(t *testing.T) {
	for _, l := range everything() {
		a := slices.Clone(l)
		whole, e := shape.Whole(a)
		faults := shape.Faults(a)
		for i := range whole[:cap(whole)] {
			whole[:cap(whole)][i] = of("9.9 8.8 7 -")
		}
		for i := range faults[:cap(faults)] {
			faults[:cap(faults)][i] = api.Fault{Index: 77, Flaw: 7}
		}
		want, err := expectedWhole(l)
		again, f := shape.Whole(a)
		if !slices.Equal(a, l) || !slices.Equal(again, want) || e != err || f != err {
			t.Fatalf("of %v there are %v, and the whole part %v, %d, after results were overwritten", l, a, again, f)
		}
		compare(t, a)
		kept := slices.Clone(again)
		for i := range a {
			a[i] = of("9.9 8.8 7 -")
		}
		if !slices.Equal(again, kept) {
			t.Fatalf("Whole(%v) has changed with the list to %v", l, again)
		}
	}
}

// Nothing depends on earlier calls, nor on the order in which a map is gone over.
func TestEqualCallsHaveEqualResults(t *testing.T) {
	for i, l := range everything() {
		if i%5 != 0 {
			continue
		}
		whole, e := shape.Whole(l)
		faults, first := shape.Faults(l), shape.First(l)
		for range 5 {
			everyCall(nodes("a, b, c, d, e"))
			if again, e2 := shape.Whole(l); !slices.Equal(again, whole) || e2 != e {
				t.Fatalf("Whole(%v) = %v, %d, and then %v, %d", l, whole, e, again, e2)
			}
			if again := shape.Faults(l); !slices.Equal(again, faults) || shape.First(l) != first {
				t.Fatalf("Faults(%v) = %v, and then %v, of which %v was the first one", l, faults, again, first)
			}
		}
	}
}

// P1: no call panics, whatever its arguments are, and each of them ends, also with very many nodes.
func TestEveryCallReturns(t *testing.T) {
	for _, l := range everything() {
		everyCall(l)
	}
	circle := chain(1 << 14)
	circle[0].Parent = circle[len(circle)-1].Dot
	for _, l := range [][]api.Node{circle, backward(circle), mixed(circle)} {
		everyCall(l)
		if whole, e := shape.Whole(l); len(whole) != 0 || e != api.OK {
			t.Errorf("of a circle %d nodes are whole, %d", len(whole), e)
		}
	}
	everyCall(slices.Repeat(nodes("a, 0.1 root 1 -, b"), 1<<14))
}
