package store_test

import (
	"math"
	"slices"
	"testing"

	"redpencil/api"
	"redpencil/store"
)

// P10.1: the examples of the chapter, and some more.
func TestValid(t *testing.T) {
	for _, c := range []struct {
		text  string
		valid bool
	}{
		{"a, b, c", true}, {"b, a", false}, {"a, a", false},
		{"", true}, {"a", true}, {"c", true}, {"b, c", true}, {"c, b", false}, {"a, c, b", false}, {"b, a, c", false}, {"a, b, b", false}, {"a, a, b", false},
		// The order is that of the counters, and then that of the replicas; nothing else counts.
		{"1.1 root 9 U+0061, 2.1 root 1 U+0061", true}, {"2.1 root 1 U+0061, 1.1 root 9 U+0061", false}, {"2.1 root 1 -, 1.2 root 1 -", true}, {"1.2 root 1 -, 2.1 root 1 -", false},
		{"1.1 root 1 -, 1.1 root 1 U+0061", false}, {"1.1 root 1 -, 1.1 root 2 -", false}, {"1.1 2.2 1 -, 1.1 3.3 1 -", false}, {"64.9 root 1 -, 1.10 root 1 -", true}, {"9.1 root 1 -, 10.1 root 1 -", true}, {"1.9 root 1 -, 1.10 root 1 -", true}, {"1.10 root 1 -, 1.9 root 1 -", false},
		{"64.4294967295 root 1 -", true}, {"63.4294967295 root 1 -, 64.4294967295 root 1 -", true}, {"64.4294967294 root 1 -, 1.4294967295 root 1 -", true}, {"64.4294967295 root 1 -, 1.1 root 1 -", false}, {"1.2147483647 root 1 -, 1.2147483648 root 1 -", true},
		// A parent that is lacking, or that comes later, is no fault of a store, nor is a circle.
		{"1.1 9.9 1 -", true}, {"1.1 1.2 1 -, 1.2 1.1 1 -", true}, {"1.1 root 5 -, 1.2 1.1 5 -", true},
		// Each node has to be valid.
		{"0.1 root 1 U+0061", false}, {"0.1 root 1 U+0061, a", false}, {"1.0 root 1 U+0061, a", false}, {"a, 65.1 root 1 U+0061", false}, {"a, 1.4294967296 root 1 -", false}, {"a, 2.2 2.2 2 -", false}, {"a, 2.2 root 0 -, c", false}, {"a, b, 1.3 9.9 7 U+D800", false}, {"1.1 root 4611686018427387904 -", true}, {"1.1 root 4611686018427387905 -", false},
	} {
		if is := store.Valid(nodes(c.text)); is != c.valid {
			t.Errorf("Valid(%s) = %t", c.text, is)
		}
	}
}

// P10.1: lists of up to three nodes, and longer ones.
func TestValidOfMany(t *testing.T) {
	valid := 0
	for _, l := range slices.Concat(lists(), stores(), noStores()) {
		if is := store.Valid(l); is != isStore(l) {
			t.Fatalf("Valid(%v) = %t", l, is)
		}
		if isStore(l) {
			valid++
		}
	}
	if valid < 30 {
		t.Errorf("only %d were valid", valid)
	}
	for _, l := range stores() {
		if !store.Valid(l) {
			t.Errorf("Valid(%v) = false", l)
		}
	}
	for _, l := range noStores() {
		if store.Valid(l) {
			t.Errorf("Valid(%v) = true", l)
		}
	}
}

// P10.1: any lists, node by node, in all parts.
func TestEqual(t *testing.T) {
	for _, c := range []struct {
		a, b  string
		equal bool
	}{
		{"", "", true}, {"a", "a", true}, {"a, b, c", "a, b, c", true}, {"a", "", false}, {"", "a", false}, {"a", "b", false}, {"a, b", "a", false}, {"a", "a, b", false}, {"a, b", "b, a", false}, {"a, a", "a", false}, {"a, a", "a, a", true}, {"b, a", "b, a", true},
		{"a", "1.1 root 1 -", false}, {"a", "1.1 root 2 U+0061", false}, {"a", "1.1 2.2 1 U+0061", false}, {"a", "2.1 root 1 U+0061", false}, {"a", "1.2 root 1 U+0061", false}, {"b", "2.2 1.2 2 U+0062", false}, {"b", "2.2 2.1 2 U+0062", false}, {"a, b, c", "a, b, 1.3 9.9 7 U+0061", false}, {"a, b, c", "a, 2.2 1.1 2 -, c", false},
		{"0.1 root -1 U+110000", "0.1 root -1 U+110000", true}, {"0.1 root -1 U+110000", "0.1 root -1 U+110001", false}, {"root root 0 -", "root root 0 -", true}, {"root root 0 -", "", false},
	} {
		if is := store.Equal(nodes(c.a), nodes(c.b)); is != c.equal {
			t.Errorf("Equal(%s, %s) = %t", c.a, c.b, is)
		}
	}
	if !store.Equal(nil, []api.Node{}) || !store.Equal([]api.Node{}, nil) || !store.Equal(nil, nil) {
		t.Error("no nodes are not equal to no nodes")
	}
	far := api.Node{Time: math.MinInt, Dot: api.Dot{Replica: math.MaxInt}}
	if !store.Equal([]api.Node{far}, []api.Node{far}) || store.Equal([]api.Node{far}, []api.Node{{}}) {
		t.Error("nodes at the ends of all numbers are not compared")
	}
}

// P10.1: each list is equal to itself alone, of lists that all differ.
func TestEqualOfMany(t *testing.T) {
	all := slices.Concat(lists()[1:100], stores()[2:], noStores()[:30])
	for i, a := range all {
		for k, b := range all {
			same := len(a) == len(b)
			for at := 0; same && at < len(a); at++ {
				same = a[at] == b[at]
			}
			if is := store.Equal(a, slices.Clone(b)); is != same || i == k && !is {
				t.Fatalf("Equal(%v, %v) = %t", a, b, is)
			}
		}
	}
}

// P10.1: the examples of the chapter, and some more.
func TestOf(t *testing.T) {
	for _, c := range []struct{ from, want string }{
		{"c, a, b, a", "a, b, c"}, {"a, 1.1 root 1 -", "1.1 root 1 -"},
		{"", ""}, {"a", "a"}, {"c", "c"}, {"a, a", "a"}, {"a, a, a, a", "a"}, {"c, c, c", "c"}, {"a, b", "a, b"}, {"b, a", "a, b"}, {"c, b, a", "a, b, c"}, {"b, b, a, a", "a, b"}, {"b, a, b, a", "a, b"},
		{"1.1 root 1 -, a", "1.1 root 1 -"}, {"a, 1.1 root 1 -, a", "1.1 root 1 -"}, {"1.1 root 1 -, a, 1.1 root 1 -", "1.1 root 1 -"}, {"a, a, 1.1 root 1 -", "1.1 root 1 -"}, {"1.1 root 1 -, a, a", "1.1 root 1 -"}, {"a, b, 1.1 root 1 -", "1.1 root 1 -, b"}, {"1.1 root 1 -, b, a", "1.1 root 1 -, b"}, {"b, 2.2 1.1 2 -, a, c, b", "a, 2.2 1.1 2 -, c"},
		// Nodes that differ in their dots alone, in the order of the counters, and then of the replicas.
		{"2.1 root 1 U+0061, 1.2 root 1 U+0061, 2.2 root 1 U+0061, 1.1 root 1 U+0061", "1.1 root 1 U+0061, 2.1 root 1 U+0061, 1.2 root 1 U+0061, 2.2 root 1 U+0061"}, {"1.10 root 1 -, 10.1 root 1 -, 9.1 root 1 -, 1.9 root 1 -", "9.1 root 1 -, 10.1 root 1 -, 1.9 root 1 -, 1.10 root 1 -"},
		{"64.4294967295 64.4294967294 4611686018427387904 U+10FFFF, 1.4294967295 root 1 -, 64.1 root 4611686018427387904 U+0001, 1.1 64.4294967295 1 -", "1.1 64.4294967295 1 -, 64.1 root 4611686018427387904 U+0001, 1.4294967295 root 1 -, 64.4294967295 64.4294967294 4611686018427387904 U+10FFFF"},
		{"64.4294967295 root 4611686018427387904 U+10FFFF, 64.4294967295 root 4611686018427387904 -", "64.4294967295 root 4611686018427387904 -"}, {"1.2 1.1 1 -, 1.1 1.2 1 -", "1.1 1.2 1 -, 1.2 1.1 1 -"},
	} {
		if l, e := store.Of(nodes(c.from)); !slices.Equal(l, nodes(c.want)) || e != api.OK {
			t.Errorf("Of(%s) = %v, %d, want %s", c.from, l, e, c.want)
		}
	}
}

// P10.1: an example of the chapter, and some more; what is not valid comes first, wherever it is.
func TestOfWhatIsNotAllowed(t *testing.T) {
	for _, c := range []struct {
		text string
		want api.Errno
	}{
		{"a, 1.1 root 2 U+0061", api.ErrClash}, {"a, 1.1 root 1 U+0062", api.ErrClash}, {"a, 1.1 2.2 1 U+0061", api.ErrClash}, {"a, 1.1 root 2 -", api.ErrClash}, {"a, 1.1 2.2 1 -", api.ErrClash}, {"1.1 root 1 -, 1.1 root 2 -", api.ErrClash}, {"1.1 2.2 1 -, 1.1 2.3 1 -", api.ErrClash}, {"1.1 2.2 1 -, 1.1 3.2 1 -", api.ErrClash},
		{"a, b, c, 1.3 9.9 8 -", api.ErrClash}, {"b, a, c, 1.1 root 1 U+0001", api.ErrClash}, {"a, a, b, b, 2.2 1.1 2 U+0063", api.ErrClash},
		{"0.1 root 1 U+0061", api.ErrArg}, {"a, 1.1 root 0 U+0061", api.ErrArg}, {"a, 1.1 root 2 U+0061, 0.1 root 1 U+0061", api.ErrArg}, {"0.1 root 1 U+0061, a, 1.1 root 2 U+0061", api.ErrArg}, {"a, 0.1 root 1 U+0061, 1.1 root 2 U+0061", api.ErrArg}, {"0.1 root 1 U+0061, 0.1 root 2 U+0061", api.ErrArg}, {"1.1 1.1 1 -, 1.1 1.1 1 -", api.ErrArg}, {"root root 0 -", api.ErrArg},
	} {
		permuted(nodes(c.text), func(l []api.Node) {
			if out, e := store.Of(l); len(out) != 0 || e != c.want {
				t.Errorf("Of(%v) = %v, %d, want the error %d", l, out, e, c.want)
			}
		})
	}
}

// P10.1, and example 7 of the document: what does not agree clashes, also if a dead node that agrees with both stands between them, or before them, or behind them.
func TestADeadNodeDoesNotHideAClash(t *testing.T) {
	for _, text := range []string{
		"a, 1.1 root 1 -, 1.1 root 1 U+0062", "a, 1.1 root 1 -, 1.1 root 1 -, 1.1 root 1 U+0062", "a, a, 1.1 root 1 -, 1.1 root 1 U+0062", "b, 2.2 1.1 2 -, 2.2 1.1 2 U+0063, a, c",
		"64.4294967295 root 4611686018427387904 U+10FFFF, 64.4294967295 root 4611686018427387904 -, 64.4294967295 root 4611686018427387904 U+10FFFE",
	} {
		permuted(nodes(text), func(l []api.Node) {
			if out, e := store.Of(l); len(out) != 0 || e != api.ErrClash {
				t.Fatalf("Of(%v) = %v, %d", l, out, e)
			}
		})
	}
}

// P10.1: all lists of up to three nodes, and such of four.
func TestOfMany(t *testing.T) {
	seen := map[api.Errno]int{}
	for _, l := range lists() {
		for _, more := range [][]api.Node{nil, nodes("a"), nodes("1.1 root 1 -"), nodes("1.2 2.1 3 -")} {
			all := slices.Concat(l, more)
			want, err := expectedOf(all)
			if out, e := store.Of(all); !slices.Equal(out, want) || e != err {
				t.Fatalf("Of(%v) = %v, %d, want %v, %d", all, out, e, want, err)
			}
			seen[err]++
		}
	}
	if seen[api.OK] < 300 || seen[api.ErrClash] < 300 || seen[api.ErrArg] < 300 {
		t.Errorf("the results were %v", seen)
	}
}

// P10.1: a node that is not valid, at each place of longer lists.
func TestOfWithAWrongNode(t *testing.T) {
	good := mixed(grown(7, 1), 3)
	for at := range len(good) + 1 {
		for _, n := range noNodes() {
			if out, e := store.Of(slices.Insert(slices.Clone(good), at, n)); len(out) != 0 || e != api.ErrArg {
				t.Errorf("Of with %v at %d = %v, %d", n, at, out, e)
			}
		}
	}
}

// P10.1: a list that is so long that a look at all others for each node would not end in time.
func TestOfALongList(t *testing.T) {
	const n = 1 << 16
	want := make([]api.Node, n)
	for i := range want {
		want[i] = api.Node{Dot: api.Dot{Replica: i%64 + 1, Counter: i/64 + 1}, Time: 1, Rune: 0x61}
	}
	all := append(slices.Clone(want), want...)
	slices.Reverse(all)
	for i := range all {
		j := (i * 40503) % len(all)
		all[i], all[j] = all[j], all[i]
	}
	if l, e := store.Of(all); !slices.Equal(l, want) || e != api.OK || !store.Valid(l) {
		t.Errorf("Of %d nodes has %d, %d", len(all), len(l), e)
	}
}
