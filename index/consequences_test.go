package index_test

import (
	"math"
	"slices"
	"testing"

	"redpencil/api"
	"redpencil/index"
)

// some returns stores of all kinds, not too many of them.
func some() [][]api.Node {
	all := append(stores(), chain(50, root), brothers(50, root), circle(5))
	for i, l := range forests() {
		if i%5 == 0 {
			all = append(all, l)
		}
	}
	return all
}

// P12.4: Of inverts At, Before of a visible node is its index, and no other dot has one.
func TestOfInvertsAt(t *testing.T) {
	visible, others := 0, 0
	for _, l := range some() {
		n, _ := index.Len(l)
		for i := range n {
			at, e := index.At(l, i)
			of, f := index.Of(l, at.Dot)
			before, g := index.Before(l, at.Dot)
			if of != i || before != i || e != api.OK || f != api.OK || g != api.OK || at.Rune == 0 || !slices.Contains(l, at) {
				t.Fatalf("At(%v, %d) = %v, %d, and that is at %d, %d, behind %d, %d", l, i, at, e, of, f, before, g)
			}
		}
		found := 0
		for _, x := range l {
			of, e := index.Of(l, x.Dot)
			if e == api.ErrNone && of == 0 {
				others++
				continue
			}
			at, f := index.At(l, of)
			if at != x || e != api.OK || f != api.OK {
				t.Fatalf("Of(%v, %v) = %d, %d, and there stands %v, %d", l, x.Dot, of, e, at, f)
			}
			found++
		}
		if found != n {
			t.Fatalf("of %v %d nodes have an index, and Len is %d", l, found, n)
		}
		visible += n
	}
	if visible < 500 || others < 500 {
		t.Errorf("only %d nodes were visible, and %d not", visible, others)
	}
}

// P12.4: Text has as many characters as Len says, and those are Runes, which are those of the nodes at the indices.
func TestTextsAreRunes(t *testing.T) {
	for _, l := range some() {
		s, e := index.Text(l)
		r, f := index.Runes(l)
		n, g := index.Len(l)
		if !slices.Equal([]rune(s), r) || len(r) != n || s != string(r) || e != api.OK || f != api.OK || g != api.OK {
			t.Fatalf("of %v: %q, %d, %x, %d, %d, %d", l, s, e, r, f, n, g)
		}
		for i := range n {
			if at, e := index.At(l, i); at.Rune != r[i] || e != api.OK {
				t.Fatalf("At(%v, %d) = %v, %d, and Runes has %x", l, i, at, e, r)
			}
		}
	}
}

// P12.4: Dots of neighbouring parts, one after the other, is that of both; and each part has the dots of the nodes at its indices, the last of which Left returns.
func TestNeighbouringPartsAreOne(t *testing.T) {
	for _, l := range some() {
		n, _ := index.Len(l)
		for from := 0; from <= n; from += 1 + n/12 {
			for to := from; to <= n; to++ {
				whole, e := index.Dots(l, from, to)
				if len(whole) != to-from || e != api.OK {
					t.Fatalf("Dots(%v, %d, %d) = %v, %d", l, from, to, whole, e)
				}
				for between := from; between <= to; between += 1 + n/20 {
					left, e := index.Dots(l, from, between)
					right, f := index.Dots(l, between, to)
					if !slices.Equal(slices.Concat(left, right), whole) || e != api.OK || f != api.OK {
						t.Fatalf("of %v from %d over %d to %d: %v, %d, and %v, %d, want %v", l, from, between, to, left, e, right, f, whole)
					}
				}
				if left, _ := index.Left(l, to); len(whole) > 0 && left != whole[len(whole)-1] {
					t.Fatalf("Left(%v, %d) = %v, and up to there are %v", l, to, left, whole)
				}
			}
			if at, _ := index.At(l, from); from < n {
				if one, _ := index.Dots(l, from, from+1); len(one) != 1 || one[0] != at.Dot {
					t.Fatalf("Dots(%v, %d, %d) = %v, and there stands %v", l, from, from+1, one, at)
				}
			}
		}
	}
}

// Before counts what is visible: it grows by one behind each visible node, and not behind a dead one.
func TestBeforeGrows(t *testing.T) {
	for _, l := range some() {
		count := 0
		for _, x := range orderOf(l, root) {
			if n, e := index.Before(l, x.Dot); n != count || e != api.OK {
				t.Fatalf("Before(%v, %v) = %d, %d, want %d", l, x.Dot, n, e, count)
			}
			if x.Rune != 0 {
				count++
			}
		}
		if n, _ := index.Len(l); n != count {
			t.Fatalf("Len(%v) = %d, want %d", l, n, count)
		}
	}
}

// sameText fails if two stores have other texts, or other visible nodes at the same places.
func sameText(t *testing.T, a, b []api.Node, why string) {
	t.Helper()
	s, e := index.Text(a)
	r, f := index.Text(b)
	n, _ := index.Len(a)
	d, g := index.Dots(a, 0, n)
	c, h := index.Dots(b, 0, n)
	if s != r || e != f || !slices.Equal(d, c) || g != h {
		t.Fatalf("%s: of %v %q, %d, %v, and of %v %q, %d, %v", why, a, s, e, d, b, r, f, c)
	}
}

// with returns a store with one more node.
func with(l []api.Node, n api.Node) []api.Node {
	at := 0
	for at < len(l) && isBefore(l[at].Dot, n.Dot) {
		at++
	}
	return slices.Insert(slices.Clone(l), at, n)
}

// without returns a store without the node at a place.
func without(l []api.Node, at int) []api.Node { return slices.Delete(slices.Clone(l), at, at+1) }

// P12.4: a dead node that is put below the root, or below any dot, changes nothing in the text, and neither does one that is lost, dead or not.
func TestDeadAndLostNodesThatCome(t *testing.T) {
	added := 0
	for _, l := range some() {
		reached := reachedOf(l)
		parents := append(dots("0.0 9.9 11.5000"), dotsOf(l)...)
		for i, parent := range parents {
			for k, d := range dots("1.1 3.2 8.7 7.7777 64.4294967295") {
				n := api.Node{Dot: d, Parent: parent, Time: []int{1, 3, api.MaxTime}[(i+k)%3]}
				// What was lost because its parent, with this dot, was lacking, may be reached then.
				if !isNode(n) || slices.Contains(dotsOf(l), d) || len(kids(l, d)) > 0 {
					continue
				}
				sameText(t, l, with(l, n), "a dead node")
				added++
				if !reached[parent] && parent != root {
					n.Rune = 0x7a
					sameText(t, l, with(l, n), "a lost node")
					added++
				}
			}
		}
	}
	if added < 3000 {
		t.Errorf("only %d nodes were added", added)
	}
}

// P12.4: a node that is lost changes nothing in the text if it goes, or is killed, or revived; a dead one changes nothing if it goes, where nothing is below it.
func TestDeadAndLostNodesThatGo(t *testing.T) {
	gone := 0
	for _, l := range some() {
		reached := reachedOf(l)
		for at, n := range l {
			if reached[n.Dot] && (n.Rune != 0 || len(kids(l, n.Dot)) > 0) {
				continue
			}
			sameText(t, l, without(l, at), "without a node")
			gone++
			for _, r := range []rune{0, 0x7a} {
				other := slices.Clone(l)
				if other[at].Rune = r; !reached[n.Dot] {
					sameText(t, l, other, "with another lost node")
				}
			}
		}
		whole := slices.DeleteFunc(slices.Clone(l), func(n api.Node) bool { return !reached[n.Dot] })
		sameText(t, l, whole, "without all that is lost")
	}
	if gone < 500 {
		t.Errorf("only %d nodes went", gone)
	}
}

// A node that is killed takes its character out of the text, and nothing else; its place stays what it was.
func TestNodesThatAreKilled(t *testing.T) {
	for _, l := range some() {
		text, _ := index.Runes(l)
		for i := range text {
			n, _ := index.At(l, i)
			other := slices.Clone(l)
			other[slices.Index(l, n)].Rune = 0
			want := slices.Delete(slices.Clone(text), i, i+1)
			if r, e := index.Runes(other); !slices.Equal(r, want) || e != api.OK {
				t.Fatalf("Runes(%v) = %x, %d, want %x", other, r, e, want)
			}
			of, e := index.Of(other, n.Dot)
			before, f := index.Before(other, n.Dot)
			if of != 0 || e != api.ErrNone || before != i || f != api.OK {
				t.Fatalf("in %v the dead %v has the index %d, %d, and before it stand %d, %d", other, n.Dot, of, e, before, f)
			}
		}
	}
}

// A text that is typed at any indices, behind what Left returns, and deleted again at others, is that of a list to which the same was done.
func TestTypedTexts(t *testing.T) {
	for rule := range 12 {
		var l []api.Node
		var want []rune
		for step := range 120 {
			at := (step*step*(rule+1) + step/3) % (len(want) + 1)
			if at < len(want) && (step+rule)%3 == 0 {
				n, _ := index.At(l, at)
				l[slices.Index(l, n)].Rune = 0
				want = slices.Delete(want, at, at+1)
			} else {
				left, e := index.Left(l, at)
				n := api.Node{Dot: api.Dot{Replica: 1 + step*rule%64, Counter: step + 1}, Parent: left, Time: step + 1, Rune: letter(1 + step%4)}
				if e != api.OK {
					t.Fatalf("Left(%v, %d) = %v, %d", l, at, left, e)
				}
				l, want = append(l, n), slices.Insert(want, at, n.Rune)
			}
			if r, e := index.Runes(l); !slices.Equal(r, want) || e != api.OK {
				t.Fatalf("Runes(%v) = %x, %d, want %x", l, r, e, want)
			}
		}
	}
}

// room returns a list with nodes behind its end, so that what a call writes there is seen.
func room(l []api.Node) []api.Node {
	return append(slices.Clone(l), nodes("7.7 7.6 7 U+0067, 8.8 root 1 -")...)
}

// No call changes a list that was handed to it, nor what lies behind its end.
func TestListsStayAsTheyAre(t *testing.T) {
	for _, l := range append(some(), noStores()...) {
		whole := room(l)
		a := whole[:len(l)]
		everyCall(a, []int{-1, 0, 1, 3, len(l)}, append(dots("0.0 1.1 9.9 0.1"), dotsOf(l[:min(len(l), 3)])...))
		if !slices.Equal(whole, room(l)) {
			t.Fatalf("of %v calls have made %v", l, whole)
		}
	}
}

// everyCall calls every function with a list, and with some numbers and dots.
func everyCall(l []api.Node, numbers []int, all []api.Dot) {
	index.Text(l)
	index.Runes(l)
	index.Len(l)
	for _, i := range numbers {
		index.At(l, i)
		index.Left(l, i)
		for _, to := range numbers {
			index.Dots(l, i, to)
		}
	}
	for _, d := range all {
		index.Of(l, d)
		index.Before(l, d)
	}
}

// Results share no memory with arguments or with other results: what is returned, and the room behind it, may be overwritten.
func TestResultsShareNoMemory(t *testing.T) {
	for _, l := range some() {
		a := slices.Clone(l)
		n, _ := index.Len(a)
		var texts [][]rune
		var parts [][]api.Dot
		for range 2 {
			text, _ := index.Runes(a)
			all, _ := index.Dots(a, 0, n)
			part, _ := index.Dots(a, n/3, n)
			none, _ := index.Dots(a, n/2, n/2)
			texts, parts = append(texts, text), append(parts, all, part, none)
		}
		apart(t, texts, 0x7a)
		apart(t, parts, dotOf("9.9"))
		if !slices.Equal(a, l) {
			t.Fatalf("of %v there is %v after results were overwritten", l, a)
		}
		for at := range a {
			a[at] = of("9.9 8.8 7 -")
		}
		for _, text := range texts {
			if slices.ContainsFunc(text, func(r rune) bool { return r != 0x7a }) {
				t.Fatalf("a text of %v has changed with the list to %x", l, text)
			}
		}
	}
}

// apart overwrites each of some lists, and the room behind it, and fails if another one changes by that.
func apart[T comparable](t *testing.T, lists [][]T, with T) {
	t.Helper()
	for i, l := range lists {
		kept := make([][]T, len(lists))
		for k := range lists {
			kept[k] = slices.Clone(lists[k])
		}
		for at := range l[:cap(l)] {
			l[:cap(l)][at] = with
		}
		for k := range lists {
			if k != i && !slices.Equal(lists[k], kept[k]) {
				t.Fatalf("result %d changed with result %d", k, i)
			}
		}
	}
}

// Nothing depends on earlier calls, nor on the order in which a map is gone over.
func TestEqualCallsHaveEqualResults(t *testing.T) {
	for i, l := range append(some(), noStores()[:40]...) {
		if i%7 != 0 {
			continue
		}
		text, e := index.Text(l)
		at, f := index.At(l, 1)
		before, g := index.Before(l, dotOf("1.2"))
		all, h := index.Dots(l, 0, 2)
		for range 5 {
			everyCall(nodes(chapter), []int{0, 2}, dots("1.1 2.2"))
			if again, e2 := index.Text(l); again != text || e2 != e {
				t.Fatalf("Text(%v) = %q, %d, and then %q, %d", l, text, e, again, e2)
			}
			if again, f2 := index.At(l, 1); again != at || f2 != f {
				t.Fatalf("At(%v) = %v, %d, and then %v, %d", l, at, f, again, f2)
			}
			if again, g2 := index.Before(l, dotOf("1.2")); again != before || g2 != g {
				t.Fatalf("Before(%v) = %d, %d, and then %d, %d", l, before, g, again, g2)
			}
			if again, h2 := index.Dots(l, 0, 2); !slices.Equal(again, all) || h2 != h {
				t.Fatalf("Dots(%v) = %v, %d, and then %v, %d", l, all, h, again, h2)
			}
		}
	}
}

// P1: no call panics, whatever its arguments are, and each of them ends, also with very many nodes, one below the other or beside it.
func TestEveryCallReturns(t *testing.T) {
	for _, l := range append(some(), noStores()...) {
		everyCall(l, []int{math.MinInt, -1, 0, 1, 2, len(l), len(l) + 1, math.MaxInt}, asked(l))
	}
	const n = 1 << 14
	for _, l := range [][]api.Node{chain(n, root), brothers(n, root), circle(n / 2)} {
		everyCall(l, []int{0, len(l)}, dots("1.1 1.7"))
	}
}
