package store_test

import (
	"slices"
	"testing"

	"redpencil/api"
	"redpencil/store"
)

// P10.5
func TestWhatIsReturnedIsAStore(t *testing.T) {
	all := slices.Concat(stores(), lists(), noStores())
	for _, l := range all {
		if out, e := store.Of(l); !isStore(out) || !store.Valid(out) || e != api.OK && len(out) > 0 {
			t.Fatalf("Of(%v) = %v, %d", l, out, e)
		}
		for _, n := range append(nodes("a, b, 1.1 root 1 -, 1.2 root 9 U+0061, 64.4294967295 1.1 1 -"), noNodes()[:5]...) {
			if out, e := store.Put(l, n); !isStore(out) || e != api.OK && len(out) > 0 {
				t.Fatalf("Put(%v, %v) = %v, %d", l, n, out, e)
			}
		}
		for _, d := range []string{"", "1.1", "1.1 1.1", "2.1 1.1", "2.2", "9.9", "0.0"} {
			if out, e := store.Kill(l, dots(d)); !isStore(out) || e != api.OK && len(out) > 0 {
				t.Fatalf("Kill(%v, %s) = %v, %d", l, d, out, e)
			}
		}
	}
}

// P10.5: all orders of few nodes, alive and dead ones, some of them twice, and such that do not agree.
func TestTheOrderDoesNotMatter(t *testing.T) {
	for _, text := range []string{
		"", "a", "a, b", "a, b, c", "a, b, c, 1.1 root 1 -", "a, b, 1.1 root 1 -, 2.2 1.1 2 -, b", "a, a, c, c, b, 2.2 1.1 2 -", "2.1 root 1 U+0061, 1.1 root 1 U+0061, 2.2 root 1 U+0061, 1.2 root 1 U+0061, 10.1 root 1 -, 1.10 root 1 -",
		"a, b, c, 1.1 root 2 U+0061", "a, 1.1 root 1 -, 1.1 root 1 U+0062, b, b", "a, 1.1 root 1 -, 1.1 root 2 -, b", "a, 0.1 root 1 -, 1.1 root 2 -, b",
	} {
		want, err := store.Of(nodes(text))
		permuted(nodes(text), func(l []api.Node) {
			if out, e := store.Of(l); !slices.Equal(out, want) || e != err {
				t.Fatalf("Of(%v) = %v, %d, want %v, %d", l, out, e, want, err)
			}
		})
	}
	for _, l := range stores()[2:] {
		for rule := range 10 {
			twice := append(mixed(l, rule), mixed(l, rule+1)...)
			if out, e := store.Of(mixed(twice, rule)); !slices.Equal(out, l) || e != api.OK {
				t.Fatalf("Of(%v) in another order = %v, %d", l, out, e)
			}
		}
	}
}

// P10.5
func TestOfAStore(t *testing.T) {
	for _, l := range append(stores(), lists()...) {
		if !isStore(l) {
			continue
		}
		if out, e := store.Of(l); !slices.Equal(out, l) || e != api.OK {
			t.Fatalf("Of(%v) = %v, %d", l, out, e)
		}
	}
}

// P10.5: also where living and dead nodes come by turns; where Put finds that two do not agree, Of does, too.
func TestPutOneAfterTheOther(t *testing.T) {
	stopped := 0
	for _, l := range slices.Concat(lists(), stores(), noStores()) {
		for rule := range 4 {
			all := l
			if len(l) > 0 {
				all = mixed(l, rule)
			}
			var out []api.Node
			e := api.OK
			for _, n := range all {
				if out, e = store.Put(out, n); e != api.OK {
					stopped++
					break
				}
			}
			want, err := store.Of(all)
			if e == api.OK && err == api.OK && !slices.Equal(out, want) || e != api.OK && err == api.OK {
				t.Fatalf("%v: put one after the other %v, %d, want %v, %d", all, out, e, want, err)
			}
		}
	}
	if stopped < 300 {
		t.Errorf("only %d times a node was not put", stopped)
	}
}

// P10.5: whatever is put afterwards, and with whatever it comes together.
func TestWhatIsDeadStaysDead(t *testing.T) {
	for _, l := range stores() {
		var whole []api.Dot
		for _, n := range l {
			whole = append(whole, n.Dot)
		}
		killed, e := store.Kill(l, whole)
		if e != api.OK {
			t.Fatalf("Kill(%v, all) = %v, %d", l, killed, e)
		}
		out := killed
		for _, n := range l {
			if out, e = store.Put(out, n); !slices.Equal(out, killed) || e != api.OK {
				t.Fatalf("Put(%v, %v) = %v, %d", killed, n, out, e)
			}
		}
		for _, both := range [][]api.Node{slices.Concat(l, killed), slices.Concat(killed, l), slices.Concat(l, killed, l)} {
			if out, e := store.Of(both); !slices.Equal(out, killed) || e != api.OK {
				t.Fatalf("Of(%v) = %v, %d, want %v", both, out, e, killed)
			}
		}
		for _, d := range append(whole, api.Dot{Replica: 1, Counter: 1}) {
			if out, _ := store.Kill(killed, []api.Dot{d}); len(out) > 0 && !slices.Equal(out, killed) {
				t.Fatalf("Kill(%v, %v) = %v", killed, d, out)
			}
		}
	}
}

// P10.5: after Kill each node with another dot is as it was, and Dead has the dots, and those that it had, and no others.
func TestKillChangesNothingElse(t *testing.T) {
	for _, l := range stores() {
		for _, d := range gone(l) {
			out, e := store.Kill(l, d)
			if e != api.OK {
				continue
			}
			has := map[api.Dot]bool{}
			for i, n := range l {
				if slices.Contains(d, n.Dot) {
					n.Rune = 0
				}
				if out[i] != n || len(out) != len(l) {
					t.Fatalf("Kill(%v, %v) = %v", l, d, out)
				}
				if n.Rune == 0 {
					has[n.Dot] = true
				}
			}
			dead, e := store.Dead(out)
			all, _ := store.Context(out)
			before, _ := store.Context(l)
			if !alike(dead, contextWith(has)) || e != api.OK || !alike(all, before) {
				t.Fatalf("Kill(%v, %v): dead are %v, %d, of %v", l, d, dead, e, all)
			}
		}
	}
}

// P10.5: what is dead in the one way is so in the other one.
func TestKillIsToPutDeadNodes(t *testing.T) {
	for _, l := range stores() {
		for i := range l {
			n := l[i]
			n.Rune = 0
			put, e := store.Put(l, n)
			killed, f := store.Kill(l, []api.Dot{n.Dot})
			if !slices.Equal(put, killed) || e != api.OK || f != api.OK {
				t.Fatalf("Put(%v, %v) = %v, %d, Kill = %v, %d", l, n, put, e, killed, f)
			}
		}
	}
}

// room returns a list with a node, and a dot, behind its end, so that what a call writes there is seen.
func room(l []api.Node) []api.Node { return append(slices.Clone(l), of("7.7 7.6 7 U+0067")) }

// No call changes a list that was handed to it, nor what lies behind its end.
func TestListsStayAsTheyAre(t *testing.T) {
	more := of("64.9 root 1 U+0061")
	for _, l := range slices.Concat(stores(), noStores(), lists()[:200]) {
		for _, d := range gone(l)[:3] {
			whole, behind := room(l), append(slices.Clone(d), dotOf("7.7"))
			a, gone := whole[:len(l)], behind[:len(d)]
			store.Valid(a)
			store.Equal(a, a)
			store.Of(a)
			store.Find(a, more.Dot)
			store.Put(a, more)
			store.Put(a, of("1.1 root 1 -"))
			store.Kill(a, gone)
			store.Context(a)
			store.Dead(a)
			store.Time(a)
			store.Lacking(a)
			if !slices.Equal(whole, room(l)) || !slices.Equal(behind, append(slices.Clone(d), dotOf("7.7"))) {
				t.Fatalf("of %v and %v calls have made %v and %v", l, d, whole, behind)
			}
		}
	}
}

// Results share no memory with arguments or with other results.
func TestResultsShareNoMemory(t *testing.T) {
	for _, l := range stores() {
		a := slices.Clone(l)
		of1, _ := store.Of(a)
		of2, _ := store.Of(a)
		put1, _ := store.Put(a, nodes("a")[0])
		put2, _ := store.Put(a, nodes("a")[0])
		kill1, _ := store.Kill(a, nil)
		kill2, _ := store.Kill(a, nil)
		results := [][]api.Node{a, of1, of2, put1, put2, kill1, kill2}
		for i, r := range results {
			kept := make([][]api.Node, len(results))
			for k := range results {
				kept[k] = slices.Clone(results[k])
			}
			for at := range r {
				r[at] = of("9.9 8.8 7 -")
			}
			if r = append(r, of("9.9 8.8 7 -")); len(r) > 0 {
				r[0].Time++
			}
			for k := range results {
				if k != i && !slices.Equal(results[k], kept[k]) {
					t.Fatalf("%v: result %d changed with result %d", l, k, i)
				}
			}
		}
	}
}

// Contexts and parents share no memory either.
func TestDotsShareNoMemory(t *testing.T) {
	for _, l := range stores() {
		x, _ := store.Context(l)
		y, _ := store.Dead(l)
		z, _ := store.Lacking(l)
		for _, d := range [][]api.Dot{x.Vector, x.Cloud, y.Vector, y.Cloud, z} {
			for i := range d {
				d[i] = dotOf("9.9")
			}
		}
		a, _ := expectedContext(l, false)
		b, _ := expectedContext(l, true)
		c, _ := expectedLacking(l)
		x, _ = store.Context(l)
		y, _ = store.Dead(l)
		z, _ = store.Lacking(l)
		if !alike(x, a) || !alike(y, b) || !slices.Equal(z, c) {
			t.Fatalf("%v: overwriting results has changed %v, %v or %v", l, x, y, z)
		}
	}
}

// Nothing depends on earlier calls.
func TestEqualCallsHaveEqualResults(t *testing.T) {
	for _, l := range slices.Concat(stores(), noStores()[:40], lists()[:100]) {
		a, e := store.Of(l)
		b, f := store.Put(l, nodes("b")[0])
		c, g := store.Kill(l, dots("1.1"))
		n, h := store.Find(l, dotOf("1.1"))
		for range 3 {
			store.Of(nodes("c, a, b, a"))
			store.Kill(nodes("a, b"), dots("1.1"))
			if a2, e2 := store.Of(l); !slices.Equal(a, a2) || e != e2 {
				t.Fatalf("Of(%v) = %v, %d, and then %v, %d", l, a, e, a2, e2)
			}
			if b2, f2 := store.Put(l, nodes("b")[0]); !slices.Equal(b, b2) || f != f2 {
				t.Fatalf("Put(%v) = %v, %d, and then %v, %d", l, b, f, b2, f2)
			}
			if c2, g2 := store.Kill(l, dots("1.1")); !slices.Equal(c, c2) || g != g2 {
				t.Fatalf("Kill(%v) = %v, %d, and then %v, %d", l, c, g, c2, g2)
			}
			if n2, h2 := store.Find(l, dotOf("1.1")); n != n2 || h != h2 {
				t.Fatalf("Find(%v) = %v, %d, and then %v, %d", l, n, h, n2, h2)
			}
		}
	}
}

// P1: no call panics, whatever its arguments are.
func TestEveryCallReturns(t *testing.T) {
	all := slices.Concat(lists(), stores(), noStores())
	for i, l := range all {
		other := all[i*i%len(all)]
		store.Valid(l)
		store.Equal(l, other)
		store.Of(slices.Concat(l, other))
		for _, n := range append(noNodes(), other...) {
			store.Find(l, n.Dot)
			store.Find(l, n.Parent)
			store.Put(l, n)
			store.Kill(l, []api.Dot{n.Parent, n.Dot})
		}
		store.Kill(l, noDots())
		store.Context(l)
		store.Dead(l)
		store.Time(l)
		store.Lacking(l)
	}
}
