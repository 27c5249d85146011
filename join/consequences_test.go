package join_test

import (
	"slices"
	"testing"

	"redpencil/api"
	"redpencil/join"
	"redpencil/store"
)

// agreeing calls f with all pairs of states that agree, of states of all kinds, and demands that there are many.
func agreeing(t *testing.T, f func(a, b, both api.State)) {
	count := 0
	for _, all := range [][]api.State{states(), small(3)} {
		for _, a := range all {
			for _, b := range all {
				if both, e := join.Join(a, b); e == api.OK {
					f(a, b, both)
					count++
				}
			}
		}
	}
	if count < 10000 {
		t.Errorf("only %d pairs of states agreed", count)
	}
}

// triples calls f with lists of three states, all of two dots and some of texts, and demands that any two of many of them agree.
func triples(t *testing.T, f func(a, b, c api.State)) {
	count := 0
	for _, all := range [][]api.State{small(2), parts(9), parts(40), append(list(chapterA, chapterB, chapterC), parts(2)...)} {
		for _, a := range all {
			for _, b := range all {
				for _, c := range all {
					if doAgree(a, b) && doAgree(b, c) && doAgree(a, c) {
						f(a, b, c)
						count++
					}
				}
			}
		}
	}
	if count < 10000 {
		t.Errorf("of only %d lists of three states any two agreed", count)
	}
}

// P14.4: the join is a state, in which both are, and it has the nodes of both and no others.
func TestBothAreInTheirJoin(t *testing.T) {
	agreeing(t, func(a, b, both api.State) {
		if !isState(both) || !join.Valid(both) || !store.Valid(both) {
			t.Fatalf("Join(%v, %v) = %v, which is no state", a, b, both)
		}
		for _, s := range []api.State{a, b} {
			if is, e := join.Within(s, both); !is || e != api.OK {
				t.Fatalf("Within(%v, %v) = %t, %d", s, both, is, e)
			}
		}
		for _, n := range both {
			if !has(a, n.Dot) && !has(b, n.Dot) {
				t.Fatalf("Join(%v, %v) = %v has %v", a, b, both, n)
			}
		}
		for _, n := range slices.Concat(a, b) {
			if !has(both, n.Dot) {
				t.Fatalf("Join(%v, %v) = %v has not %v", a, b, both, n)
			}
		}
	})
}

// has reports whether a state has a node with a dot.
func has(s api.State, d api.Dot) bool {
	return slices.ContainsFunc(s, func(n api.Node) bool { return n.Dot == d })
}

// dead reports whether a state has a dead node with a dot.
func dead(s api.State, d api.Dot) bool {
	return slices.ContainsFunc(s, func(n api.Node) bool { return n.Dot == d && n.Rune == 0 })
}

// P14.4: what is dead in one of the states is dead in the join, and nothing else is; what is alive stays what it was.
func TestWhatIsDeadIsDeadInTheJoin(t *testing.T) {
	agreeing(t, func(a, b, both api.State) {
		for _, n := range both {
			if (n.Rune == 0) != (dead(a, n.Dot) || dead(b, n.Dot)) || n.Rune != 0 && !slices.Contains(a, n) && !slices.Contains(b, n) {
				t.Fatalf("Join(%v, %v) = %v, with %v", a, b, both, n)
			}
		}
	})
}

// P14.4: for any states, also such that are no store or do not agree.
func TestTheOrderOfBothDoesNotMatter(t *testing.T) {
	all := append(states(), noStates()[:40]...)
	for _, a := range all {
		for _, b := range all {
			x, e := join.Join(a, b)
			y, f := join.Join(b, a)
			is, g := join.Agree(a, b)
			was, h := join.Agree(b, a)
			if !slices.Equal(x, y) || e != f || is != was || g != h {
				t.Fatalf("Join(%v, %v) = %v, %d, and in the other order %v, %d; Agree = %t, %d, and %t, %d", a, b, x, e, y, f, is, g, was, h)
			}
			if is != (e == api.OK) || (g == api.ErrArg) != (e == api.ErrArg) {
				t.Fatalf("Join(%v, %v) = %v, %d, Agree = %t, %d", a, b, x, e, is, g)
			}
		}
	}
}

// P14.4: a state joined with itself, with the empty one, and, once more, with a state that was joined to it.
func TestJoinAgain(t *testing.T) {
	for _, s := range append(states(), small(3)...) {
		for _, other := range []api.State{s, slices.Clone(s), nil} {
			for _, p := range [][2]api.State{{s, other}, {other, s}} {
				if x, e := join.Join(p[0], p[1]); !slices.Equal(x, s) || e != api.OK {
					t.Fatalf("Join(%v, %v) = %v, %d", p[0], p[1], x, e)
				}
			}
		}
	}
	agreeing(t, func(a, b, both api.State) {
		for _, s := range []api.State{a, b, both} {
			if x, e := join.Join(s, both); !slices.Equal(x, both) || e != api.OK {
				t.Fatalf("Join(%v, %v) = %v, %d", s, both, x, e)
			}
		}
	})
}

// P14.4: of three states, any two of which agree, the join of two agrees with the third one, and it does not matter how they are grouped.
func TestGroupsDoNotMatter(t *testing.T) {
	triples(t, func(a, b, c api.State) {
		ab, _ := join.Join(a, b)
		bc, _ := join.Join(b, c)
		ac, _ := join.Join(a, c)
		x, e := join.Join(ab, c)
		y, f := join.Join(a, bc)
		z, g := join.Join(ac, b)
		if !slices.Equal(x, y) || !slices.Equal(x, z) || e != api.OK || f != api.OK || g != api.OK {
			t.Fatalf("of %v, %v and %v the joins are %v, %d, and %v, %d, and %v, %d", a, b, c, x, e, y, f, z, g)
		}
		if s, e := join.All([]api.State{a, b, c}); !slices.Equal(s, x) || e != api.OK {
			t.Fatalf("All(%v, %v, %v) = %v, %d, and joined one after the other they are %v", a, b, c, s, e, x)
		}
	})
}

// P14.4: in which order states are given to All, and how often, does not matter, also if they do not agree, or are no store.
func TestOrderAndNumberDoNotMatterForAll(t *testing.T) {
	for _, l := range [][]api.State{
		nil, list(""), list(chapterA, chapterB), list(chapterA, chapterB, chapterC), list(chapterA, "", chapterB), parts(9)[1:5], parts(9)[5:9], parts(40)[8:12], parts(40)[13:], list("1.2 root 1 -, 1.1 root 1 -", chapterA, chapterC), append(parts(9)[3:6], spoilt(text(9), 4, 1)), small(2)[9:13], small(2)[31:35],
	} {
		want, err := join.All(l)
		check := func(l []api.State) {
			if s, e := join.All(l); !slices.Equal(s, want) || e != err {
				t.Fatalf("All(%v) = %v, %d, want %v, %d", l, s, e, want, err)
			}
		}
		permuted(l, func(l []api.State) {
			check(l)
			check(slices.Concat(l, l))
			for i := range l {
				check(append(slices.Clone(l), l[i]))
				check(slices.Insert(slices.Clone(l), i, l[i], l[i]))
				check(slices.Insert(slices.Clone(l), i, nil))
			}
			if err == api.OK {
				check(append(slices.Clone(l), want))
			}
		})
	}
}

// P14.4: states are ordered by being within each other: each is in itself, two that are within each other are equal, and what is in one that is in a third one is in the third one.
func TestWithinIsAnOrder(t *testing.T) {
	for _, all := range [][]api.State{states(), small(3)} {
		for _, a := range all {
			if is, e := join.Within(a, a); !is || e != api.OK {
				t.Fatalf("Within(%v, itself) = %t, %d", a, is, e)
			}
			for _, b := range all {
				is, e := join.Within(a, b)
				back, f := join.Within(b, a)
				if is && back != isSame(a, b) || e != f {
					t.Fatalf("Within(%v, %v) = %t, %d, and the other way round %t, %d", a, b, is, e, back, f)
				}
			}
		}
	}
	triples(t, func(a, b, c api.State) {
		ab, _ := join.Within(a, b)
		bc, _ := join.Within(b, c)
		if ac, e := join.Within(a, c); ab && bc && !ac || e != api.OK {
			t.Fatalf("Within(%v, %v) = %t, %d, and %v is between them", a, c, ac, e, b)
		}
	})
}

// P14.4: a state is within another one just if that has all of its nodes, or has them as dead ones.
func TestWithinNodeByNode(t *testing.T) {
	agreeing(t, func(a, b, both api.State) {
		want := !slices.ContainsFunc(a, func(n api.Node) bool { return !slices.Contains(b, n) && !dead(b, n.Dot) })
		if is, e := join.Within(a, b); is != want || e != api.OK {
			t.Fatalf("Within(%v, %v) = %t, %d", a, b, is, e)
		}
	})
}

// P14.4: the join is the least state in which both are: it is in each other one.
func TestTheJoinIsTheLeast(t *testing.T) {
	triples(t, func(a, b, c api.State) {
		in, _ := join.Within(a, c)
		too, _ := join.Within(b, c)
		both, e := join.Join(a, b)
		if is, f := join.Within(both, c); is != (in && too) || e != api.OK || f != api.OK {
			t.Fatalf("Join(%v, %v) = %v, and Within(that, %v) = %t, %d", a, b, both, c, is, f)
		}
	})
}

// P0.2: what replicas have made of a text, in parts that come in other orders, some of them twice, some of them joined before they come, is the same for all.
func TestPartsComeInAnyOrder(t *testing.T) {
	whole := text(60)
	var deltas []api.State
	for i := 0; i < len(whole); i += 3 {
		deltas = append(deltas, slices.Clone(whole[i:i+3]))
		if i%2 == 1 {
			n := whole[i/2]
			n.Rune = 0
			deltas = append(deltas, api.State{n})
			whole[i/2] = n
		}
	}
	for rule := range 50 {
		var own, held api.State
		for i := range 4 * len(deltas) {
			s := deltas[(i*(2*rule+1)+i*i*rule)%len(deltas)]
			if i >= 3*len(deltas) {
				s = deltas[i-3*len(deltas)]
			}
			var e, f api.Errno
			if held, e = join.Join(held, s); i%(1+rule%5) == 0 {
				own, f = join.Join(own, held)
				held = nil
			}
			if e != api.OK || f != api.OK {
				t.Fatalf("the part %v was refused: %d, %d", s, e, f)
			}
		}
		own, e := join.Join(own, held)
		if !slices.Equal(own, whole) || e != api.OK {
			t.Fatalf("by rule %d the parts became %v, %d, want %v", rule, own, e, whole)
		}
	}
	if s, e := join.All(deltas); !slices.Equal(s, whole) || e != api.OK {
		t.Errorf("the parts together are %v, %d", s, e)
	}
}

// room returns a state with a node behind its end, so that what a call writes there is seen.
func room(s api.State) api.State {
	return append(slices.Clone(s), node("7.7 7.6 7 U+0067"), node("8.8 root 1 -"))
}

// everyCall calls every function with two states.
func everyCall(a, b api.State) {
	join.Valid(a)
	join.Equal(a, b)
	join.Copy(a)
	join.Agree(a, b)
	join.Join(a, b)
	join.All([]api.State{a, b})
	join.All([]api.State{b, nil, a, a})
	join.Within(a, b)
}

// No call changes a state that was handed to it, nor what lies behind its end, nor a list of states; and none reads that.
func TestStatesStayAsTheyAre(t *testing.T) {
	all := append(states(), noStates()[:60]...)
	for i, x := range all {
		for _, y := range []api.State{x, all[i*i%len(all)], all[(i+1)%len(all)]} {
			wholeX, wholeY := room(x), room(y)
			a, b := wholeX[:len(x)], wholeY[:len(y)]
			everyCall(a, b)
			given := []api.State{a, b, a, text(3)}
			l := given[:3]
			s, e := join.All(l)
			want, err := expectedAll([]api.State{x, y, x})
			if !slices.Equal(wholeX, room(x)) || !slices.Equal(wholeY, room(y)) || !slices.EqualFunc(given, []api.State{x, y, x, text(3)}, isSame) {
				t.Fatalf("of %v and %v calls have made %v and %v, and of the list of them %v", x, y, wholeX, wholeY, given)
			}
			if !slices.Equal(s, want) || e != err {
				t.Fatalf("All(%v) = %v, %d, want %v, %d", l, s, e, want, err)
			}
		}
	}
}

// copies returns copies of states.
func copies(l []api.State) []api.State {
	var out []api.State
	for _, s := range l {
		out = append(out, slices.Clone(s))
	}
	return out
}

// Results share no memory with arguments or with other results: what is returned, and the room behind it, may be overwritten.
func TestResultsShareNoMemory(t *testing.T) {
	other := node("9.9 8.8 7 -")
	agreeing(t, func(x, y, _ api.State) {
		if len(x) > 9 || len(y) > 9 {
			return
		}
		a, b := slices.Clone(x), slices.Clone(y)
		results := func() []api.State {
			both, _ := join.Join(a, b)
			all, _ := join.All([]api.State{a, b})
			one, _ := join.All([]api.State{a})
			none, _ := join.Join(a, nil)
			none2, _ := join.Join(nil, a)
			return []api.State{both, all, one, none, none2, join.Copy(a)}
		}
		kept, overwritten := results(), results()
		before := copies(kept)
		for _, s := range overwritten {
			for i := range s[:cap(s)] {
				s[:cap(s)][i] = other
			}
		}
		if !isSame(a, x) || !isSame(b, y) {
			t.Fatalf("%v and %v have changed with results to %v and %v", x, y, a, b)
		}
		for i := range a {
			a[i] = other
		}
		for i := range b {
			b[i] = other
		}
		for i := range kept {
			if !isSame(kept[i], before[i]) {
				t.Fatalf("result %d of %v and %v has changed to %v with others, or with the arguments", i, x, y, kept[i])
			}
		}
	})
}

// Nil and empty states, and lists of them, are the same.
func TestNilAndEmptyStates(t *testing.T) {
	for _, none := range []api.State{nil, {}, text(3)[:0]} {
		a, e := join.Join(none, none)
		b, f := join.All([]api.State{none, none})
		is, g := join.Agree(none, none)
		in, h := join.Within(none, nil)
		if len(a) != 0 || len(b) != 0 || len(join.Copy(none)) != 0 || !is || !in || !join.Valid(none) || !join.Equal(none, nil) || e != api.OK || f != api.OK || g != api.OK || h != api.OK {
			t.Errorf("of states without nodes there come %v, %d, and %v, %d, and %t, %d, and %t, %d", a, e, b, f, is, g, in, h)
		}
	}
}

// Nothing depends on earlier calls.
func TestEqualCallsHaveEqualResults(t *testing.T) {
	all := append(states(), noStates()[:60]...)
	for i, a := range all {
		b := all[i*i%len(all)]
		s, e := join.Join(a, b)
		l, f := join.All([]api.State{a, b, a})
		is, g := join.Within(a, b)
		for range 3 {
			everyCall(all[(i+7)%len(all)], b)
			s2, e2 := join.Join(a, b)
			l2, f2 := join.All([]api.State{a, b, a})
			is2, g2 := join.Within(a, b)
			if !slices.Equal(s, s2) || !slices.Equal(l, l2) || is != is2 || e != e2 || f != f2 || g != g2 {
				t.Fatalf("calls with %v and %v have other results than before", a, b)
			}
		}
	}
}

// P1: no call panics, whatever its arguments are.
func TestEveryCallReturns(t *testing.T) {
	all := slices.Concat(states(), noStates())
	for _, n := range noNodes() {
		all = append(all, api.State{n, n}, api.State{n, {}, n})
	}
	for i, a := range all {
		for _, b := range []api.State{a, nil, all[i*i%len(all)], all[(i+31)%len(all)]} {
			everyCall(a, b)
		}
	}
}
