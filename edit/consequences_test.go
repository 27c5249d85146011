package edit_test

import (
	"math"
	"slices"
	"testing"

	"redpencil/api"
	"redpencil/edit"
	"redpencil/index"
	"redpencil/shape"
)

// whole returns well-formed states of all kinds, and small ones.
func whole() []api.State {
	all := states()
	for i, s := range small() {
		if i%3 == 0 && shape.Well(s) {
			all = append(all, s)
		}
	}
	return all
}

// some returns well-formed states of all kinds, and a few small ones.
func some() []api.State {
	all := states()
	for i, s := range whole()[len(all):] {
		if i%17 == 0 {
			all = append(all, s)
		}
	}
	return all
}

// fresh returns the first dot of a replica behind all that a state has of it.
func fresh(s api.State, replica int) api.Dot {
	last := 0
	for _, n := range s {
		if n.Dot.Replica == replica {
			last = max(last, n.Dot.Counter)
		}
	}
	return at(replica, last+1)
}

// mayGrow says whether there are times for some more nodes.
func mayGrow(s api.State) bool { return edit.Latest(s) < 1<<61 }

// runesOf returns the runes of the visible nodes of a state.
func runesOf(s api.State) []rune { return []rune(textOf(s)) }

// applied returns the state after a delta, and its runes; it fails if there is an error, or if the state is not well-formed.
func applied(t *testing.T, s, delta api.State) (api.State, []rune) {
	t.Helper()
	both, text, e := edit.Apply(s, delta)
	if e != api.OK || !shape.Well(both) || string(text) != textOf(both) {
		t.Fatalf("Apply(%v, %v) = %v, %q, %d", s, delta, both, string(text), e)
	}
	return both, text
}

// P15.4, P0.3: after each edit the text is what the same operation on the list of its runes gives, and the state is well-formed; the nodes that stay are those that they were.
func TestTextsChangeAsListsDo(t *testing.T) {
	edits := 0
	check := func(s, delta api.State, e api.Errno, want []rune) {
		t.Helper()
		if e != api.OK {
			t.Fatalf("an edit of %v has the error %d", s, e)
		}
		both, text := applied(t, s, delta)
		if !slices.Equal(text, want) {
			t.Fatalf("of %v by %v the text is %q, want %q", s, delta, string(text), string(want))
		}
		for _, n := range s {
			if !has(delta, n.Dot) && !slices.Contains(both, n) {
				t.Fatalf("of %v by %v, which has not %v, there is %v", s, delta, n, both)
			}
		}
		edits++
	}
	for i, s := range whole() {
		if !mayGrow(s) {
			continue
		}
		text := runesOf(s)
		d := fresh(s, 1+i%4)
		for from := range len(text) + 1 {
			for _, l := range [][]rune{nil, []rune("x"), []rune("xéy")} {
				delta, e := edit.Insert(s, d, from, l)
				check(s, delta, e, slices.Insert(slices.Clone(text), from, l...))
				for n := range len(text) - from + 1 {
					delta, e := edit.Replace(s, d, from, n, l)
					check(s, delta, e, slices.Replace(slices.Clone(text), from, from+n, l...))
				}
			}
			for n := range len(text) - from + 1 {
				delta, e := edit.Delete(s, from, n)
				check(s, delta, e, slices.Delete(slices.Clone(text), from, from+n))
			}
		}
	}
	if edits < 10000 {
		t.Errorf("there were only %d edits", edits)
	}
}

// P15.4: without runes to be inserted or deleted the delta has no nodes, at each index, whatever the dot is, and however late the state is.
func TestEmptyDeltas(t *testing.T) {
	for _, s := range whole() {
		for from := range len(visible(s)) + 1 {
			for _, d := range []api.Dot{at(1, 1), at(1, 2), at(64, 4294967295), fresh(s, 3)} {
				for _, l := range [][]rune{nil, {}} {
					a, e := edit.Insert(s, d, from, l)
					b, f := edit.Delete(s, from, 0)
					c, g := edit.Replace(s, d, from, 0, l)
					if len(a)+len(b)+len(c) > 0 || e != api.OK || f != api.OK || g != api.OK {
						t.Fatalf("of %v there are %v, %d, and %v, %d, and %v, %d", s, a, e, b, f, c, g)
					}
				}
			}
		}
	}
}

// change is what an edit does to a text: from an index on a number of runes go, and others come.
type change struct {
	from, n int
	l       string
}

// changes returns all changes of a state's text, with some others that come.
func changes(s api.State, texts ...string) []change {
	var all []change
	size := len(visible(s))
	for from := range size + 1 {
		for n := range size - from + 1 {
			for _, l := range texts {
				all = append(all, change{from: from, n: n, l: l})
			}
		}
	}
	return all
}

// replaced returns the delta of an edit, and fails if there is an error.
func replaced(t *testing.T, s api.State, d api.Dot, c change) api.State {
	t.Helper()
	delta, e := edit.Replace(s, d, c.from, c.n, []rune(c.l))
	if e != api.OK {
		t.Fatalf("Replace(%v, %v, %d, %d, %q): %d", s, d, c.from, c.n, c.l, e)
	}
	return delta
}

// P15.4: deltas of two replicas that began with the same state, in either order: the result is the same, what one of them has inserted is in the text, one rune after the other, and of what was there all that none has deleted.
func TestDeltasOfTwoReplicas(t *testing.T) {
	pairs := 0
	for i, s := range whole() {
		if i%4 > 0 || !mayGrow(s) || len(visible(s)) > 6 {
			continue
		}
		x, y := fresh(s, 2), fresh(s, 61)
		for _, c := range changes(s, "", "pq") {
			mine := replaced(t, s, x, c)
			for _, o := range changes(s, "", "z", "xyz") {
				other := replaced(t, s, y, o)
				a, _ := applied(t, s, mine)
				a, text := applied(t, a, other)
				b, _ := applied(t, s, other)
				b, back := applied(t, b, mine)
				if !slices.Equal(a, b) || !slices.Equal(text, back) {
					t.Fatalf("of %v by %v and %v there are %v, %q, and %v, %q", s, mine, other, a, string(text), b, string(back))
				}
				follow(t, a, x, c)
				follow(t, a, y, o)
				for i, n := range visible(s) {
					gone := c.from <= i && i < c.from+c.n || o.from <= i && i < o.from+o.n
					if _, e := index.Of(a, n.Dot); (e == api.ErrNone) != gone {
						t.Fatalf("of %v by %v and %v there is %v, in which %v has the error %d", s, mine, other, a, n, e)
					}
				}
				pairs++
			}
		}
	}
	if pairs < 10000 {
		t.Errorf("there were only %d pairs", pairs)
	}
}

// follow fails if the runes that an edit has inserted are not in the text, one directly behind the other.
func follow(t *testing.T, s api.State, d api.Dot, c change) {
	t.Helper()
	last := -1
	for i, r := range []rune(c.l) {
		place, e := index.Of(s, at(d.Replica, d.Counter+i))
		if n, _ := index.At(s, place); e != api.OK || n.Rune != r || i > 0 && place != last+1 {
			t.Fatalf("of %v, %d of %q is at %d, %d, and the one before at %d", s, i, c.l, place, e, last)
		}
		last = place
	}
}

// P15.4, P0.2, P0.3: replicas that edit their own states, and get the deltas of the others later, each in another order and some of them twice, end with the same text; and at each of them each edit changes the text as it changes a list.
func TestReplicasThatEdit(t *testing.T) {
	for rule := range 6 {
		states := make([]api.State, 3)
		var deltas []api.State
		for round := range 12 {
			first := len(deltas)
			for step := range 9 {
				who := (step*(rule+1) + round) % 3
				s := states[who]
				text := runesOf(s)
				from := (step*step + round*7 + rule*who) % (len(text) + 1)
				n := min((step+round)%4, len(text)-from)
				l := many((step + rule) % 5)
				delta := replaced(t, s, fresh(s, who+1), change{from: from, n: n, l: string(l)})
				after, got := applied(t, s, delta)
				if want := slices.Replace(text, from, from+n, l...); !slices.Equal(got, want) {
					t.Fatalf("the text is %q, want %q", string(got), string(want))
				}
				states[who], deltas = after, append(deltas, delta)
			}
			for who := range states {
				news := slices.Clone(deltas[first:])
				for i := range news {
					k := (i*i + who*5) % len(news)
					news[i], news[k] = news[k], news[i]
				}
				for _, delta := range append(news, news[0], deltas[len(deltas)/2]) {
					s, _, e := edit.Apply(states[who], delta)
					if e != api.OK {
						t.Fatalf("Apply(%v, %v): %d", states[who], delta, e)
					}
					states[who] = s
				}
			}
			for who, s := range states {
				if !slices.Equal(s, states[0]) || !shape.Well(s) {
					t.Fatalf("replica %d has %v, and the first one %v", who+1, s, states[0])
				}
			}
		}
		if len(states[0]) < 100 || len(visible(states[0])) < 20 {
			t.Errorf("in the end there are only %d nodes, with the text %q", len(states[0]), textOf(states[0]))
		}
	}
}

// A delta that is applied twice, or to a state that has it already, changes nothing the second time.
func TestDeltasThatComeTwice(t *testing.T) {
	for _, s := range some() {
		if !mayGrow(s) || len(visible(s)) > 6 {
			continue
		}
		for _, c := range changes(s, "", "xy") {
			delta := replaced(t, s, fresh(s, 3), c)
			once, text := applied(t, s, delta)
			for _, again := range []api.State{delta, s, once, nil} {
				if twice, same := applied(t, once, again); !slices.Equal(twice, once) || !slices.Equal(same, text) {
					t.Fatalf("of %v by %v, and then %v, there is %v", s, delta, again, twice)
				}
			}
		}
	}
}

// room returns a state with nodes behind its end, so that what a call writes there is seen.
func room(s api.State) api.State {
	return append(slices.Clone(s), of("7.7 7.6 7 U+0067, 8.8 root 1 -")...)
}

// everyCall calls every function with a state, and with some numbers, dots and runes.
func everyCall(s api.State, numbers []int, dots []api.Dot, l []rune) {
	edit.Latest(s)
	edit.Apply(s, s)
	edit.Apply(s, nil)
	edit.Apply(of(chapter), s)
	for _, from := range numbers {
		for _, n := range numbers {
			edit.Delete(s, from, n)
			edit.Replace(s, dots[0], from, n, l)
		}
		for _, d := range dots {
			edit.Insert(s, d, from, l)
			edit.Replace(s, d, from, 1, l)
		}
	}
}

// No call changes a state or a list of runes that was handed to it, nor what lies behind their ends.
func TestArgumentsStayAsTheyAre(t *testing.T) {
	for _, s := range append(append(some(), notWell()...), noStores()...) {
		all := room(s)
		l := []rune("xyzé")
		everyCall(all[:len(s)], []int{-1, 0, 1, len(s)}, []api.Dot{fresh(s, 5), at(1, 1)}, l[:2])
		if !slices.Equal(all, room(s)) || string(l) != "xyzé" {
			t.Fatalf("of %v calls have made %v, %q", s, all, string(l))
		}
	}
}

// overwrite makes something else of a list, and of the room behind it.
func overwrite[T any](l []T, with T) {
	for i := range l[:cap(l)] {
		l[:cap(l)][i] = with
	}
}

// Results share no memory with arguments, or with other results: each of them may be overwritten, with the room behind it.
func TestResultsShareNoMemory(t *testing.T) {
	other := of("9.9 8.8 7 -")[0]
	for _, s := range some() {
		if !mayGrow(s) {
			continue
		}
		d, l, n := fresh(s, 5), []rune("xy"), len(visible(s))
		kept := slices.Clone(s)
		calls := []func() api.State{
			func() api.State { delta, _ := edit.Insert(s, d, n/2, l); return delta },
			func() api.State { delta, _ := edit.Delete(s, n/3, n/2); return delta },
			func() api.State { delta, _ := edit.Replace(s, d, n/3, n/2, l); return delta },
			func() api.State { delta, _ := edit.Replace(s, d, n/3, n/2, nil); return delta },
			func() api.State { delta, _ := edit.Replace(s, d, n/3, 0, l); return delta },
			func() api.State { both, _, _ := edit.Apply(s, nil); return both },
			func() api.State { both, _, _ := edit.Apply(nil, s); return both },
			func() api.State { both, _, _ := edit.Apply(s, s); return both },
		}
		for i, call := range calls {
			was := slices.Clone(call())
			first, second := call(), call()
			overwrite(first, other)
			if !slices.Equal(s, kept) || string(l) != "xy" || !slices.Equal(second, was) || !slices.Equal(call(), was) {
				t.Fatalf("call %d: %v has become %v, and %v has become %v", i, kept, s, was, second)
			}
			overwrite(s[:len(s):len(s)], other)
			overwrite(l, 'z')
			if !slices.Equal(second, was) {
				t.Fatalf("call %d: %v has become %v with the state", i, was, second)
			}
			copy(s, kept)
			copy(l, []rune("xy"))
		}
	}
}

// Nothing depends on earlier calls, nor on the order in which a map is gone over.
func TestEqualCallsHaveEqualResults(t *testing.T) {
	for _, s := range some() {
		n := len(visible(s))
		delta, e := edit.Replace(s, at(7, 7), n/3, n/2, []rune("xy"))
		both, text, f := edit.Apply(s, delta)
		for range 3 {
			everyCall(of(chapter), []int{0, 1}, []api.Dot{at(2, 2), at(7, 7)}, []rune("a"))
			again, g := edit.Replace(slices.Clone(s), at(7, 7), n/3, n/2, []rune("xy"))
			same, read, h := edit.Apply(slices.Clone(s), again)
			if !slices.Equal(again, delta) || g != e || !slices.Equal(same, both) || !slices.Equal(read, text) || h != f {
				t.Fatalf("of %v there are %v, %d, and then %v, %d", s, delta, e, again, g)
			}
		}
	}
}

// P1: no call panics, whatever its arguments are, and each of them ends, also with very many nodes.
func TestEveryCallReturns(t *testing.T) {
	wild := []int{math.MinInt, -1, 0, 1, math.MaxInt}
	for _, s := range append(append(some(), notWell()...), noStores()...) {
		everyCall(s, append(wild, len(s), len(s)+1), append(noDots(), at(1, 1), at(64, 4294967295)), []rune{'x', 0})
	}
	everyCall(nil, wild, noDots(), nil)
	s := line(1 << 16)
	for _, c := range []change{{0, 10000, "x"}, {1 << 15, 9999, "xyz"}, {1 << 16, 0, "xy"}, {1<<16 - 1, 1, ""}} {
		want := slices.Replace(runesOf(s), c.from, c.from+c.n, []rune(c.l)...)
		if _, text := applied(t, s, replaced(t, s, fresh(s, 1), c)); !slices.Equal(text, want) {
			t.Errorf("of a long text there are %d runes, want %d", len(text), len(want))
		}
	}
	everyCall(line(1<<14), []int{0, 1 << 13}, []api.Dot{at(2, 1)}, []rune{'x'})
}
