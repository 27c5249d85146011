package store_test

import (
	"slices"
	"testing"

	"redpencil/api"
	"redpencil/store"
)

// P10.2: the examples of the chapter, and some more.
func TestFind(t *testing.T) {
	for _, c := range []struct {
		l, d, want string
		err        api.Errno
	}{
		{"a, b, c", "2.2", "b", api.OK}, {"a, b, c", "2.3", "", api.ErrNone}, {"a, b, c", "2.0", "", api.ErrArg},
		{"a, b, c", "1.1", "a", api.OK}, {"a, b, c", "1.3", "c", api.OK}, {"a", "1.1", "a", api.OK}, {"", "1.1", "", api.ErrNone}, {"a", "2.1", "", api.ErrNone}, {"a", "1.2", "", api.ErrNone}, {"a, b, c", "1.2", "", api.ErrNone}, {"a, b, c", "2.1", "", api.ErrNone}, {"a, b, c", "9.9", "", api.ErrNone}, {"a, b, c", "3.1", "", api.ErrNone}, {"c", "3.1", "", api.ErrNone}, {"b, c", "1.1", "", api.ErrNone},
		{"64.4294967295 64.4294967294 4611686018427387904 U+10FFFF", "64.4294967295", "64.4294967295 64.4294967294 4611686018427387904 U+10FFFF", api.OK}, {"64.4294967295 64.4294967294 4611686018427387904 U+10FFFF", "64.4294967294", "", api.ErrNone}, {"a", "64.4294967295", "", api.ErrNone}, {"a", "1.4294967295", "", api.ErrNone},
		{"", "0.0", "", api.ErrArg}, {"a, b, c", "0.0", "", api.ErrArg}, {"a, b, c", "65.1", "", api.ErrArg}, {"a, b, c", "1.4294967296", "", api.ErrArg}, {"a", "1.4294967297", "", api.ErrArg}, {"a", "4294967297.1", "", api.ErrArg}, {"a", "1.-1", "", api.ErrArg},
		{"b, a", "1.1", "", api.ErrArg}, {"b, a", "3.3", "", api.ErrArg}, {"a, a", "1.1", "", api.ErrArg}, {"a, 2.2 2.2 2 -", "1.1", "", api.ErrArg}, {"0.1 root 1 -", "0.1", "", api.ErrArg}, {"root root 0 -", "0.0", "", api.ErrArg},
	} {
		want := api.Node{}
		if c.err == api.OK {
			want = nodes(c.want)[0]
		}
		if n, e := store.Find(nodes(c.l), dotOf(c.d)); n != want || e != c.err {
			t.Errorf("Find(%s, %s) = %v, %d, want %s, %d", c.l, c.d, n, e, c.want, c.err)
		}
	}
}

// P10.2: each node of stores is found, and no parent that is not there, nor any other dot.
func TestFindInMany(t *testing.T) {
	asked := append(noDots(), dots("1.1 1.2 2.1 7.3 64.1 1.4294967295 64.4294967295 64.4294967294 9.9 105.5")...)
	for _, l := range slices.Concat(stores(), noStores(), lists()[:60]) {
		all := slices.Clone(asked)
		for _, n := range l {
			all = append(all, n.Dot, n.Parent, api.Dot{Replica: n.Dot.Replica + 1, Counter: n.Dot.Counter}, api.Dot{Replica: n.Dot.Replica, Counter: n.Dot.Counter + 1})
		}
		for _, d := range all {
			want, err := expectedFind(l, d)
			if n, e := store.Find(l, d); n != want || e != err {
				t.Fatalf("Find(%v, %v) = %v, %d, want %v, %d", l, d, n, e, want, err)
			}
		}
	}
}

// P10.2: the examples of the chapter, and some more.
func TestPut(t *testing.T) {
	for _, c := range []struct {
		l, n, want string
		err        api.Errno
	}{
		{"a, c", "b", "a, b, c", api.OK}, {"a, c", "1.3 9.9 8 -", "", api.ErrClash},
		// Before, between and behind the others, and where there are none.
		{"", "a", "a", api.OK}, {"", "c", "c", api.OK}, {"b, c", "a", "a, b, c", api.OK}, {"a, b", "c", "a, b, c", api.OK}, {"a", "2.1 root 1 -", "a, 2.1 root 1 -", api.OK}, {"2.1 root 1 -", "a", "a, 2.1 root 1 -", api.OK}, {"a", "64.4294967295 root 4611686018427387904 U+10FFFF", "a, 64.4294967295 root 4611686018427387904 U+10FFFF", api.OK}, {"64.4294967295 root 1 -", "1.4294967295 root 1 -", "1.4294967295 root 1 -, 64.4294967295 root 1 -", api.OK},
		// In the place of one that is there.
		{"a, b, c", "a", "a, b, c", api.OK}, {"a, b, c", "b", "a, b, c", api.OK}, {"a, b, c", "c", "a, b, c", api.OK}, {"a, b, c", "1.1 root 1 -", "1.1 root 1 -, b, c", api.OK}, {"a, b, c", "2.2 1.1 2 -", "a, 2.2 1.1 2 -, c", api.OK}, {"a, b, c", "1.3 9.9 7 U+0063", "a, b, c", api.OK}, {"1.1 root 1 -", "a", "1.1 root 1 -", api.OK}, {"1.1 root 1 -", "1.1 root 1 U+0062", "1.1 root 1 -", api.OK},
		{"a, b, c", "1.1 root 1 U+0062", "", api.ErrClash}, {"a, b, c", "1.1 root 2 U+0061", "", api.ErrClash}, {"a, b, c", "1.1 3.3 1 U+0061", "", api.ErrClash}, {"a, b, c", "2.2 root 2 U+0062", "", api.ErrClash}, {"a, b, c", "2.2 1.1 3 -", "", api.ErrClash}, {"a, b, c", "1.3 9.8 7 -", "", api.ErrClash}, {"a, b, c", "1.3 root 7 U+0061", "", api.ErrClash},
		// What is not valid comes first.
		{"", "0.1 root 1 -", "", api.ErrArg}, {"a", "0.1 root 1 -", "", api.ErrArg}, {"a", "1.1 root 0 U+0061", "", api.ErrArg}, {"a", "1.1 1.1 1 U+0061", "", api.ErrArg}, {"a", "1.1 root 1 U+D800", "", api.ErrArg}, {"a", "root root 0 -", "", api.ErrArg},
		{"b, a", "c", "", api.ErrArg}, {"b, a", "a", "", api.ErrArg}, {"b, a", "1.1 root 2 -", "", api.ErrArg}, {"a, a", "b", "", api.ErrArg}, {"a, a", "a", "", api.ErrArg}, {"0.1 root 1 -", "a", "", api.ErrArg}, {"0.1 root 1 -", "0.1 root 1 -", "", api.ErrArg}, {"a, 1.1 root 1 -", "b", "", api.ErrArg}, {"a, 1.1 root 2 -", "b", "", api.ErrArg},
	} {
		if l, e := store.Put(nodes(c.l), nodes(c.n)[0]); !slices.Equal(l, nodes(c.want)) || e != c.err {
			t.Errorf("Put(%s, %s) = %v, %d, want %s, %d", c.l, c.n, l, e, c.want, c.err)
		}
	}
}

// P10.2: nodes of stores, dead or with another rune, time or parent, and others, valid or not, into stores and others.
func TestPutIntoMany(t *testing.T) {
	others := append(noNodes(), nodes("a, b, c, 1.1 root 1 -, 2.1 1.1 2 U+0062, 5.4 2.2 3 -, 64.4294967295 1.1 4611686018427387904 U+10FFFF")...)
	seen := map[api.Errno]int{}
	for _, l := range slices.Concat(stores(), noStores(), lists()[:90]) {
		all := slices.Clone(others)
		for i, n := range l {
			dead, rune, time, parent, dot := n, n, n, n, n
			dead.Rune, rune.Rune = 0, n.Rune+1
			time.Time++
			parent.Parent = dotOf("64.9")
			dot.Dot.Replica = n.Dot.Replica%64 + 1
			if all = append(all, n, dead); i%5 == 0 {
				all = append(all, rune, time, parent, dot)
			}
		}
		for _, n := range all {
			want, err := expectedPut(l, n)
			if out, e := store.Put(l, n); !slices.Equal(out, want) || e != err {
				t.Fatalf("Put(%v, %v) = %v, %d, want %v, %d", l, n, out, e, want, err)
			}
			seen[err]++
		}
	}
	if seen[api.OK] < 500 || seen[api.ErrClash] < 200 || seen[api.ErrArg] < 500 {
		t.Errorf("the results were %v", seen)
	}
}

// P10.2: the examples of the chapter, and some more.
func TestKill(t *testing.T) {
	for _, c := range []struct {
		l, dots, want string
		err           api.Errno
	}{
		{"a, b", "2.2 2.2", "a, 2.2 1.1 2 -", api.OK}, {"a, b", "1.3", "", api.ErrNone},
		{"", "", "", api.OK}, {"a, b, c", "", "a, b, c", api.OK}, {"a", "1.1", "1.1 root 1 -", api.OK}, {"a, b, c", "1.1", "1.1 root 1 -, b, c", api.OK}, {"a, b, c", "2.2", "a, 2.2 1.1 2 -, c", api.OK}, {"a, b, c", "1.3", "a, b, c", api.OK}, {"c", "1.3 1.3 1.3", "c", api.OK},
		{"a, b, c", "1.1 2.2 1.3", "1.1 root 1 -, 2.2 1.1 2 -, c", api.OK}, {"a, b, c", "1.3 2.2 1.1", "1.1 root 1 -, 2.2 1.1 2 -, c", api.OK}, {"a, b, c", "2.2 1.1 2.2 1.1", "1.1 root 1 -, 2.2 1.1 2 -, c", api.OK}, {"64.4294967295 root 4611686018427387904 U+10FFFF", "64.4294967295", "64.4294967295 root 4611686018427387904 -", api.OK},
		// One dot that is not there is enough, wherever it is.
		{"", "1.1", "", api.ErrNone}, {"a, b, c", "2.1", "", api.ErrNone}, {"a, b, c", "1.2", "", api.ErrNone}, {"a, b, c", "9.9", "", api.ErrNone}, {"a, b, c", "1.1 2.2 9.9", "", api.ErrNone}, {"a, b, c", "9.9 1.1 2.2", "", api.ErrNone}, {"a, b, c", "1.1 9.9 2.2", "", api.ErrNone}, {"a", "64.4294967295", "", api.ErrNone},
		// So is one that is not valid, also behind one that is not there.
		{"", "0.0", "", api.ErrArg}, {"a, b", "0.0", "", api.ErrArg}, {"a, b", "1.1 1.0", "", api.ErrArg}, {"a, b", "9.9 65.1", "", api.ErrArg}, {"a, b", "65.1 9.9", "", api.ErrArg}, {"a, b", "9.9 1.4294967296 1.1", "", api.ErrArg}, {"a", "1.4294967297", "", api.ErrArg},
		{"b, a", "", "", api.ErrArg}, {"b, a", "1.1", "", api.ErrArg}, {"b, a", "9.9", "", api.ErrArg}, {"a, a", "1.1", "", api.ErrArg}, {"a, 1.1 root 1 -", "", "", api.ErrArg}, {"0.1 root 1 -", "0.1", "", api.ErrArg}, {"0.1 root 1 U+0061", "", "", api.ErrArg}, {"a, 2.2 root 0 -", "1.1", "", api.ErrArg},
	} {
		if l, e := store.Kill(nodes(c.l), dots(c.dots)); !slices.Equal(l, nodes(c.want)) || e != c.err {
			t.Errorf("Kill(%s, %s) = %v, %d, want %s, %d", c.l, c.dots, l, e, c.want, c.err)
		}
	}
	for _, none := range [][]api.Dot{nil, {}} {
		if l, e := store.Kill(nodes("a, b"), none); !slices.Equal(l, nodes("a, b")) || e != api.OK {
			t.Errorf("Kill of none = %v, %d", l, e)
		}
	}
}

// gone returns lists of dots of some nodes: each one, some, all of them, in order and not, and twice; and with one that is lacking, or not valid, at the front, in the middle, or at the end.
func gone(l []api.Node) [][]api.Dot {
	var whole, some []api.Dot
	all := [][]api.Dot{nil}
	for i, n := range mixed(l, 5) {
		whole = append(whole, n.Dot)
		if i%3 == 0 {
			some = append(some, n.Dot)
		}
		all = append(all, []api.Dot{n.Dot}, []api.Dot{n.Dot, n.Dot})
	}
	back := slices.Clone(whole)
	slices.Reverse(back)
	all = append(all, whole, some, slices.Concat(some, whole, back))
	for _, d := range append(noDots(), dots("7.77 64.4294967294 1.2")...) {
		all = append(all, []api.Dot{d}, slices.Insert(slices.Clone(some), 0, d), slices.Insert(slices.Clone(some), len(some)/2, d), append(slices.Clone(some), d), append(dots("8.88"), d), append([]api.Dot{d}, dots("8.88")...))
	}
	return all
}

// P10.2: any dots of stores and of others.
func TestKillInMany(t *testing.T) {
	seen := map[api.Errno]int{}
	for _, l := range slices.Concat(stores(), noStores()[:60], lists()[:60]) {
		for _, d := range gone(l) {
			want, err := expectedKill(l, d)
			if out, e := store.Kill(l, d); !slices.Equal(out, want) || e != err {
				t.Fatalf("Kill(%v, %v) = %v, %d, want %v, %d", l, d, out, e, want, err)
			}
			seen[err]++
		}
	}
	if seen[api.OK] < 500 || seen[api.ErrNone] < 200 || seen[api.ErrArg] < 500 {
		t.Errorf("the results were %v", seen)
	}
}

// P10.2: with a list that is no store each call fails, whatever else is asked.
func TestOneNodeOfWhatIsNoStore(t *testing.T) {
	for _, l := range noStores() {
		for _, d := range append(dots("1.1 9.9 0.0"), l[0].Dot, l[len(l)-1].Dot) {
			if n, e := store.Find(l, d); n != (api.Node{}) || e != api.ErrArg {
				t.Fatalf("Find(%v, %v) = %v, %d", l, d, n, e)
			}
			if out, e := store.Kill(l, []api.Dot{d}); len(out) != 0 || e != api.ErrArg {
				t.Fatalf("Kill(%v, %v) = %v, %d", l, d, out, e)
			}
		}
		for _, n := range append(nodes("a, b, c, 64.99 root 1 -, 0.1 root 1 -"), l...) {
			if out, e := store.Put(l, n); len(out) != 0 || e != api.ErrArg {
				t.Fatalf("Put(%v, %v) = %v, %d", l, n, out, e)
			}
		}
		if out, e := store.Kill(l, nil); len(out) != 0 || e != api.ErrArg {
			t.Fatalf("Kill(%v, none) = %v, %d", l, out, e)
		}
	}
}
