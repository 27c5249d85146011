package digest_test

import (
	"slices"
	"testing"

	"redpencil/api"
	"redpencil/digest"
	"redpencil/join"
)

// copied returns a digest that is equal, in memory of its own.
func copied(d api.Digest) api.Digest {
	return api.Digest{All: copiedContext(d.All), Gone: copiedContext(d.Gone)}
}

// copiedContext returns a context that is equal, in memory of its own.
func copiedContext(c api.Context) api.Context {
	return api.Context{Vector: slices.Clone(c.Vector), Cloud: slices.Clone(c.Cloud)}
}

// digestOf returns the digest of a state, which must not fail.
func digestOf(t *testing.T, s api.State) api.Digest {
	t.Helper()
	d, e := digest.Of(s)
	if e != api.OK {
		t.Fatalf("Of(%v) = %v, %d", s, d, e)
	}
	return d
}

// joined returns the join of two states, which must not fail.
func joined(t *testing.T, a, b api.State) api.State {
	t.Helper()
	both, e := join.Join(a, b)
	if e != api.OK {
		t.Fatalf("Join(%v, %v) = %v, %d", a, b, both, e)
	}
	return both
}

// agreeing calls f with all pairs of states that agree, of states of all kinds, and with their digests.
func agreeing(t *testing.T, f func(a, b api.State, x, y api.Digest)) {
	for _, l := range groups() {
		var all []api.Digest
		for _, s := range l {
			all = append(all, digestOf(t, s))
		}
		for i, a := range l {
			for k, b := range l {
				f(a, b, all[i], all[k])
			}
		}
	}
}

// P16.4, P0.2: joining the difference gives the same as joining the whole state; the difference is within the state, and has nothing that is in the other one already.
func TestADifferenceIsEnough(t *testing.T) {
	agreeing(t, func(a, b api.State, _, y api.Digest) {
		news, e := digest.Diff(a, y)
		if e != api.OK || !join.Valid(news) {
			t.Fatalf("Diff(%v, %v) = %v, %d", a, y, news, e)
		}
		if all, some := joined(t, a, b), joined(t, news, b); !slices.Equal(all, some) {
			t.Fatalf("%v and %v become %v, but with the difference %v they become %v", a, b, all, news, some)
		}
		if is, e := join.Within(news, a); !is || e != api.OK {
			t.Fatalf("Diff(%v, %v) = %v is within it: %t, %d", a, y, news, is, e)
		}
		for i, n := range news {
			if !slices.Contains(a, n) || slices.Contains(b, n) {
				t.Fatalf("Diff(%v, %v) = %v has %v", a, y, news, n)
			}
			// Without any of its nodes it would not be enough.
			less := slices.Delete(slices.Clone(news), i, i+1)
			if len(news) < 9 && slices.Equal(joined(t, less, b), joined(t, a, b)) {
				t.Fatalf("Diff(%v, %v) = %v need not have %v", a, y, news, n)
			}
		}
	})
}

// P16.4: the difference of a state against its own digest has no nodes, against the empty digest it is the state; and against what is merged from both digests it has no nodes, either.
func TestDifferencesAgainstOwnDigests(t *testing.T) {
	agreeing(t, func(a, b api.State, x, y api.Digest) {
		both, e := digest.Merge(y, x)
		if e != api.OK {
			t.Fatalf("Merge(%v, %v) = %v, %d", y, x, both, e)
		}
		for _, d := range []api.Digest{x, both} {
			if news, e := digest.Diff(a, d); len(news) > 0 || e != api.OK {
				t.Fatalf("Diff(%v, %v) = %v, %d", a, d, news, e)
			}
		}
	})
	for _, s := range slices.Concat(states(), small()) {
		if news, e := digest.Diff(s, api.Digest{}); !slices.Equal(news, s) || e != api.OK {
			t.Fatalf("Diff(%v, nothing) = %v, %d", s, news, e)
		}
	}
}

// P16.4: the digest of the join of two states is that of their digests together.
func TestTheDigestOfAJoin(t *testing.T) {
	agreeing(t, func(a, b api.State, x, y api.Digest) {
		both, e := digest.Merge(x, y)
		if want := digestOf(t, joined(t, a, b)); !digest.Equal(both, want) || !isSame(both, want) || e != api.OK {
			t.Fatalf("of %v and %v the digests together are %v, %d, and that of the join is %v", a, b, both, e, want)
		}
	})
}

// P16.4: a state is within another one just if its digest is, and just if there is no difference.
func TestWithinIsWithin(t *testing.T) {
	inside := 0
	agreeing(t, func(a, b api.State, x, y api.Digest) {
		want, e := join.Within(a, b)
		is, f := digest.Within(x, y)
		news, g := digest.Diff(a, y)
		if is != want || is != (len(news) == 0) || e != api.OK || f != api.OK || g != api.OK {
			t.Fatalf("Within(%v, %v) = %t, %d, but that of the states %v and %v is %t, %d", x, y, is, f, a, b, want, e)
		}
		if is {
			inside++
		}
	})
	if inside < 2000 {
		t.Errorf("only %d states were within others", inside)
	}
}

// P16.4: Merge does not depend on the order of both, nor on how three are grouped; with itself and with the empty one a digest stays what it is; both are within what they make, which is within each that has both.
func TestMergeIsAJoin(t *testing.T) {
	merged := func(a, b api.Digest) api.Digest {
		d, e := digest.Merge(a, b)
		if e != api.OK {
			t.Fatalf("Merge(%v, %v) = %v, %d", a, b, d, e)
		}
		return d
	}
	within := func(a, b api.Digest) bool {
		is, e := digest.Within(a, b)
		if e != api.OK {
			t.Fatalf("Within(%v, %v) = %t, %d", a, b, is, e)
		}
		return is
	}
	all := some()
	for i, a := range all {
		if !isSame(merged(a, a), a) || !isSame(merged(a, api.Digest{}), a) || !isSame(merged(api.Digest{}, a), a) || !within(a, a) || !within(api.Digest{}, a) {
			t.Fatalf("%v with itself, or with nothing, is %v, or %v", a, merged(a, a), merged(a, api.Digest{}))
		}
		for k, b := range all {
			both := merged(a, b)
			if !isSame(both, merged(b, a)) || !within(a, both) || !within(b, both) || within(a, b) != isSame(both, b) || within(a, b) && within(b, a) && !isSame(a, b) {
				t.Fatalf("Merge(%v, %v) = %v, and in the other order %v", a, b, both, merged(b, a))
			}
			c := all[(i*i+k)%len(all)]
			if !isSame(merged(both, c), merged(a, merged(b, c))) || within(both, c) != (within(a, c) && within(b, c)) {
				t.Fatalf("of %v, %v and %v there is %v, or %v", a, b, c, merged(both, c), merged(a, merged(b, c)))
			}
		}
	}
}

// P16.4, P0.2: replicas that tell each other their digests, and get differences alone, some of them twice or against an older digest, end with the same state as those that get whole states.
func TestReplicasThatGetDifferences(t *testing.T) {
	for rule := range 20 {
		own, full := parts(60, 4)[7:12], parts(60, 4)[7:12]
		var old []api.Digest
		for _, s := range own {
			old = append(old, digestOf(t, s))
		}
		for step := range 60 {
			from, to := (step*(rule+1)+step/5)%5, (step+step*step*rule)%5
			d := digestOf(t, own[to])
			if (step+rule)%4 == 0 {
				d = old[to]
			}
			old[to] = d
			news, e := digest.Diff(own[from], d)
			if e != api.OK {
				t.Fatalf("Diff(%v, %v) = %v, %d", own[from], d, news, e)
			}
			own[to], full[to] = joined(t, joined(t, own[to], news), news), joined(t, full[to], full[from])
			if !slices.Equal(own[to], full[to]) {
				t.Fatalf("by rule %d, step %d, there is %v, and with whole states %v", rule, step, own[to], full[to])
			}
		}
	}
}

// others is some dots that stand behind the end of each list of a digest.
func others() []api.Dot { return dots("63.9 64.9 1.1 0.0 65.65") }

// withRoom returns a digest whose lists have more dots behind their ends, and all of these lists as a whole.
func withRoom(d api.Digest) (api.Digest, [][]api.Dot) {
	var all [][]api.Dot
	room := func(l []api.Dot) []api.Dot {
		longer := append(slices.Clone(l), others()...)
		all = append(all, longer)
		return longer[:len(l)]
	}
	return api.Digest{All: api.Context{Vector: room(d.All.Vector), Cloud: room(d.All.Cloud)}, Gone: api.Context{Vector: room(d.Gone.Vector), Cloud: room(d.Gone.Cloud)}}, all
}

// everyCall calls every function with a state and two digests.
func everyCall(s api.State, a, b api.Digest) {
	digest.Valid(a)
	digest.Equal(a, b)
	digest.Of(s)
	digest.Diff(s, a)
	digest.Diff(s, b)
	digest.Merge(a, b)
	digest.Within(a, b)
}

// No call changes a state or a digest that was handed to it, nor what lies behind their ends.
func TestArgumentsStayAsTheyAre(t *testing.T) {
	stateRoom := of("7.7 7.6 7 U+0067, 8.8 root 1 -")
	list := slices.Concat(some(), noDigests()[:200])
	bad := noStates()
	for i, s := range append(states(), bad[:60]...) {
		x, y := list[i*i%len(list)], list[(i+5)%len(list)]
		whole := append(slices.Clone(s), stateRoom...)
		a, roomOfA := withRoom(x)
		b, roomOfB := withRoom(y)
		for _, p := range [][2]api.Digest{{a, b}, {b, a}, {a, a}} {
			everyCall(whole[:len(s)], p[0], p[1])
		}
		_, wantA := withRoom(x)
		_, wantB := withRoom(y)
		same := func(k, l []api.Dot) bool { return slices.Equal(k, l) }
		if !slices.Equal(whole, slices.Concat(s, stateRoom)) || !slices.EqualFunc(roomOfA, wantA, same) || !slices.EqualFunc(roomOfB, wantB, same) || !isSame(a, x) || !isSame(b, y) {
			t.Fatalf("of %v, %v and %v calls have made %v, %v and %v", s, x, y, whole, roomOfA, roomOfB)
		}
	}
}

// overwrite makes something else of the lists of a digest, and of the room behind them.
func overwrite(d api.Digest) {
	for _, l := range [][]api.Dot{d.All.Vector, d.All.Cloud, d.Gone.Vector, d.Gone.Cloud} {
		for i := range l[:cap(l)] {
			l[:cap(l)][i] = at(77, 77)
		}
	}
}

// overwriteState makes something else of a state, and of the room behind it.
func overwriteState(s api.State) {
	for i := range s[:cap(s)] {
		s[:cap(s)][i] = api.Node{Dot: at(77, 77)}
	}
}

// Results share no memory with arguments, or with other results, nor do their parts with each other: each list may be overwritten, with the room behind it.
func TestResultsShareNoMemory(t *testing.T) {
	list := some()
	for i, x := range states() {
		s, a, b := slices.Clone(x), copied(list[i%len(list)]), copied(list[(i*i+3)%len(list)])
		for _, call := range []func() (api.Digest, api.State){
			func() (api.Digest, api.State) { d, _ := digest.Of(s); return d, nil },
			func() (api.Digest, api.State) { n, _ := digest.Diff(s, a); return api.Digest{}, n },
			func() (api.Digest, api.State) { n, _ := digest.Diff(s, api.Digest{}); return api.Digest{}, n },
			func() (api.Digest, api.State) { d, _ := digest.Merge(a, b); return d, nil },
			func() (api.Digest, api.State) { d, _ := digest.Merge(a, a); return d, nil },
			func() (api.Digest, api.State) { d, _ := digest.Merge(a, api.Digest{}); return d, nil },
			func() (api.Digest, api.State) { d, _ := digest.Merge(api.Digest{}, b); return d, nil },
		} {
			wantDigest, wantState := call()
			wantDigest, wantState = copied(wantDigest), slices.Clone(wantState)
			d, n := call()
			other, otherState := call()
			overwrite(api.Digest{All: api.Context{Vector: d.All.Vector}})
			overwrite(api.Digest{Gone: api.Context{Cloud: d.Gone.Cloud}})
			if !slices.Equal(d.All.Cloud, wantDigest.All.Cloud) || !slices.Equal(d.Gone.Vector, wantDigest.Gone.Vector) {
				t.Fatalf("the parts of %v share memory", wantDigest)
			}
			overwrite(d)
			overwriteState(n)
			if !slices.Equal(s, x) || !isSame(a, list[i%len(list)]) || !isSame(b, list[(i*i+3)%len(list)]) || !isSame(other, wantDigest) || !slices.Equal(otherState, wantState) {
				t.Fatalf("with a result of %v, %v and %v have changed: %v, %v, %v", x, a, b, s, other, otherState)
			}
			overwrite(a)
			overwrite(b)
			overwriteState(s)
			if !isSame(other, wantDigest) || !slices.Equal(otherState, wantState) {
				t.Fatalf("%v, or %v, has changed with the arguments", wantDigest, wantState)
			}
			s, a, b = slices.Clone(x), copied(list[i%len(list)]), copied(list[(i*i+3)%len(list)])
		}
	}
}

// Nothing depends on earlier calls, nor on the order in which a map is gone over.
func TestEqualCallsHaveEqualResults(t *testing.T) {
	list := append(some(), noDigests()[:50]...)
	for i, s := range states() {
		a, b := list[i%len(list)], list[(i*i+3)%len(list)]
		own, e := digest.Of(s)
		news, f := digest.Diff(s, a)
		both, g := digest.Merge(a, b)
		is, h := digest.Within(a, b)
		for k := range 3 {
			everyCall(of(chapter), b, list[(i+k)%len(list)])
			own2, e2 := digest.Of(slices.Clone(s))
			news2, f2 := digest.Diff(slices.Clone(s), copied(a))
			both2, g2 := digest.Merge(copied(a), copied(b))
			is2, h2 := digest.Within(copied(a), copied(b))
			if !isSame(own, own2) || !slices.Equal(news, news2) || !isSame(both, both2) || is != is2 || e != e2 || f != f2 || g != g2 || h != h2 {
				t.Fatalf("calls with %v, %v and %v have other results than before", s, a, b)
			}
		}
	}
}

// P1: no call panics, whatever its arguments are.
func TestEveryCallReturns(t *testing.T) {
	list := slices.Concat(noDigests(), some())
	for i, s := range append(noStates(), states()...) {
		for k := range 5 {
			everyCall(s, list[(i*7+k)%len(list)], list[(i*i+k*31)%len(list)])
		}
	}
	for i, d := range list {
		everyCall(nil, d, list[(i*i+1)%len(list)])
	}
}

// P1: each call ends soon with very many nodes, and with long clouds.
func TestManyNodes(t *testing.T) {
	var odd, even api.State
	for counter := 2; counter <= 1<<17; counter++ {
		n := api.Node{Dot: at(1+counter%64, counter), Time: counter, Rune: letter(counter)}
		dead := n
		dead.Rune = 0
		switch counter % 4 {
		case 0:
			odd, even = append(odd, dead), append(even, n)
		case 1:
			odd = append(odd, n)
		case 2:
			even = append(even, dead)
		default:
			odd, even = append(odd, dead), append(even, dead)
		}
	}
	x, y := digestOf(t, odd), digestOf(t, even)
	if len(x.All.Cloud) < 90000 || len(y.Gone.Cloud) < 60000 {
		t.Fatalf("there are only %d and %d dots in the clouds", len(x.All.Cloud), len(y.Gone.Cloud))
	}
	news, e := digest.Diff(odd, y)
	if len(news) != 1<<16-1 || e != api.OK {
		t.Errorf("there are %d new nodes, %d", len(news), e)
	}
	all := joined(t, odd, even)
	if !slices.Equal(joined(t, news, even), all) {
		t.Error("the difference is not enough")
	}
	both, e := digest.Merge(x, y)
	if !isSame(both, digestOf(t, all)) || e != api.OK {
		t.Errorf("together there are other digests, %d", e)
	}
	there, e := digest.Within(x, both)
	if back, f := digest.Within(both, x); !there || back || e != api.OK || f != api.OK {
		t.Errorf("Within = %t, %d, and the other way round %t, %d", there, e, back, f)
	}
}
