package store_test

import (
	"fmt"
	"slices"
	"strings"

	"redpencil/api"
)

// dotOf returns the dot with a text, which may also be what a dot that is not valid would be written as.
func dotOf(s string) api.Dot {
	var d api.Dot
	fmt.Sscanf(s, "%d.%d", &d.Replica, &d.Counter)
	return d
}

// dots returns the dots that a text names, in its order; "-" and "" stand for no dots.
func dots(s string) []api.Dot {
	var l []api.Dot
	for _, part := range strings.Fields(s) {
		if part != "-" {
			l = append(l, dotOf(part))
		}
	}
	return l
}

// of returns the node with a text, which may also be what a node that is not valid would be written as.
func of(s string) api.Node {
	part := strings.Fields(s)
	n := api.Node{Dot: dotOf(part[0]), Parent: dotOf(part[1])}
	fmt.Sscanf(part[2], "%d", &n.Time)
	fmt.Sscanf(part[3], "U+%X", &n.Rune)
	return n
}

// nodes returns the nodes that a text names, with commas in between; a letter stands for a node of the chapter.
func nodes(s string) []api.Node {
	var l []api.Node
	for part := range strings.SplitSeq(s, ",") {
		switch part = strings.TrimSpace(part); part {
		case "":
		case "a":
			l = append(l, of("1.1 root 1 U+0061"))
		case "b":
			l = append(l, of("2.2 1.1 2 U+0062"))
		case "c":
			l = append(l, of("1.3 9.9 7 -"))
		default:
			l = append(l, of(part))
		}
	}
	return l
}

// ctx returns the context that is written as the chapter writes it: the vector, a bar, and the dots of the cloud.
func ctx(s string) api.Context {
	v, cloud, _ := strings.Cut(s, " / ")
	return api.Context{Vector: dots(v), Cloud: dots(cloud)}
}

// isDot says which dots are valid, as chapter 4 defines it.
func isDot(d api.Dot) bool {
	return d.Replica > 0 && d.Replica < 65 && d.Counter > 0 && d.Counter < 4294967296
}

// isBefore says which of two dots stands first in a set, as chapter 4 defines it.
func isBefore(a, b api.Dot) bool {
	return a.Counter < b.Counter || a.Counter == b.Counter && a.Replica < b.Replica
}

// isNode says which nodes are valid, as chapter 9 defines it.
func isNode(n api.Node) bool {
	rune := n.Rune == 0 || 0 < n.Rune && n.Rune < 0xd800 || 0xdfff < n.Rune && n.Rune < 0x110000
	return isDot(n.Dot) && (n.Parent == api.Dot{} || isDot(n.Parent)) && n.Parent != n.Dot && 0 < n.Time && n.Time <= 4611686018427387904 && rune
}

// doAgree says which nodes agree, as chapter 9 defines it.
func doAgree(a, b api.Node) bool {
	return a.Dot == b.Dot && a.Parent == b.Parent && a.Time == b.Time && (a.Rune == 0 || b.Rune == 0 || a.Rune == b.Rune)
}

// isStore says which lists are stores, as the chapter defines it: each dot before all that come after it.
func isStore(l []api.Node) bool {
	for i, n := range l {
		if !isNode(n) {
			return false
		}
		for _, later := range l[i+1:] {
			if !isBefore(n.Dot, later.Dot) {
				return false
			}
		}
	}
	return true
}

// expectedOf returns what Of has to return: it compares each node with each other one, and puts them in order one after the other.
func expectedOf(l []api.Node) ([]api.Node, api.Errno) {
	for _, n := range l {
		if !isNode(n) {
			return nil, api.ErrArg
		}
	}
	var out []api.Node
	for _, n := range l {
		at, is, merged := 0, false, n
		for _, other := range l {
			if other.Dot == n.Dot && !doAgree(n, other) {
				return nil, api.ErrClash
			}
			if other.Dot == n.Dot && other.Rune == 0 {
				merged = other
			}
		}
		for at < len(out) && !isBefore(n.Dot, out[at].Dot) {
			is = is || out[at].Dot == n.Dot
			at++
		}
		if !is {
			out = slices.Insert(out, at, merged)
		}
	}
	return out, api.OK
}

// expectedFind returns what Find has to return.
func expectedFind(l []api.Node, d api.Dot) (api.Node, api.Errno) {
	if !isStore(l) || !isDot(d) {
		return api.Node{}, api.ErrArg
	}
	for _, n := range l {
		if n.Dot == d {
			return n, api.OK
		}
	}
	return api.Node{}, api.ErrNone
}

// expectedPut returns what Put has to return.
func expectedPut(l []api.Node, n api.Node) ([]api.Node, api.Errno) {
	if !isStore(l) {
		return nil, api.ErrArg
	}
	return expectedOf(append([]api.Node{n}, l...))
}

// expectedKill returns what Kill has to return.
func expectedKill(l []api.Node, gone []api.Dot) ([]api.Node, api.Errno) {
	for _, d := range gone {
		if !isDot(d) {
			return nil, api.ErrArg
		}
	}
	if !isStore(l) {
		return nil, api.ErrArg
	}
	out := slices.Clone(l)
	for _, d := range gone {
		is := false
		for i := range out {
			if out[i].Dot == d {
				out[i].Rune, is = 0, true
			}
		}
		if !is {
			return nil, api.ErrNone
		}
	}
	return out, api.OK
}

// contextWith returns the compact context with some dots, as chapter 6 defines it: all beginnings without a gap, and what lies behind one.
func contextWith(has map[api.Dot]bool) api.Context {
	var c api.Context
	for replica := 1; replica <= 64; replica++ {
		last := 0
		for has[api.Dot{Replica: replica, Counter: last + 1}] {
			last++
		}
		if last > 0 {
			c.Vector = append(c.Vector, api.Dot{Replica: replica, Counter: last})
		}
		for d := range has {
			if d.Replica == replica && d.Counter > last {
				c.Cloud = append(c.Cloud, d)
			}
		}
	}
	slices.SortFunc(c.Cloud, inOrder)
	return c
}

// inOrder compares dots, as chapter 4 defines it.
func inOrder(a, b api.Dot) int {
	switch {
	case isBefore(a, b):
		return -1
	case isBefore(b, a):
		return 1
	}
	return 0
}

// expectedContext returns what Context has to return, or Dead, if only what is dead counts.
func expectedContext(l []api.Node, dead bool) (api.Context, api.Errno) {
	if !isStore(l) {
		return api.Context{}, api.ErrArg
	}
	has := map[api.Dot]bool{}
	for _, n := range l {
		if !dead || n.Rune == 0 {
			has[n.Dot] = true
		}
	}
	return contextWith(has), api.OK
}

// expectedTime returns what Time has to return: the time that no other one exceeds.
func expectedTime(l []api.Node) (int, api.Errno) {
	if !isStore(l) {
		return 0, api.ErrArg
	}
	for _, n := range l {
		if !slices.ContainsFunc(l, func(other api.Node) bool { return other.Time > n.Time }) {
			return n.Time, api.OK
		}
	}
	return 0, api.OK
}

// expectedLacking returns what Lacking has to return.
func expectedLacking(l []api.Node) ([]api.Dot, api.Errno) {
	if !isStore(l) {
		return nil, api.ErrArg
	}
	var out []api.Dot
	for _, n := range l {
		is := n.Parent == api.Dot{} || slices.ContainsFunc(l, func(other api.Node) bool { return other.Dot == n.Parent })
		if !is && !slices.Contains(out, n.Parent) {
			out = append(out, n.Parent)
		}
	}
	slices.SortFunc(out, inOrder)
	return out, api.OK
}

// lists returns all lists of up to three nodes of a few, in all orders: living and dead ones, with the same dot or not, which agree or not, and one that is not valid.
func lists() [][]api.Node {
	some := nodes("a, 1.1 root 1 -, 1.1 root 1 U+0062, 1.1 root 2 -, 2.1 1.1 2 U+0062, 2.1 1.1 2 -, 1.2 2.1 3 U+0063, 1.2 3.9 3 -, 0.1 root 1 U+0061")
	all := [][]api.Node{nil, {}}
	for _, first := range some {
		all = append(all, []api.Node{first})
		for _, second := range some {
			all = append(all, []api.Node{first, second})
			for _, third := range some {
				all = append(all, []api.Node{first, second, third})
			}
		}
	}
	return all
}

// stores returns stores of no nodes, of one, of few and of many: with gaps, with dead nodes, with parents that are lacking, and with everything at its limit.
func stores() [][]api.Node {
	all := [][]api.Node{
		nil, {}, nodes("a"), nodes("c"), nodes("a, b"), nodes("b, c"), nodes("a, b, c"),
		nodes("1.1 root 1 -"), nodes("64.4294967295 64.4294967294 4611686018427387904 U+10FFFF"), nodes("64.4294967295 root 4611686018427387904 -"),
		nodes("1.1 64.4294967295 4611686018427387904 U+0001, 64.1 1.1 1 -, 1.4294967295 64.1 2 U+D7FF, 64.4294967295 1.4294967295 4611686018427387903 U+E000"),
		nodes("1.1 1.2 1 U+0061, 1.2 1.1 1 U+0062"), nodes("1.2 9.9 1 -, 2.2 9.9 1 -, 3.2 9.9 1 -, 1.4 9.9 1 U+0061, 1.5 8.9 1 U+0061, 1.6 1.5 1 U+0061"),
	}
	for _, size := range []int{5, 20, 60} {
		for rule := range 6 {
			all = append(all, grown(size, rule))
		}
	}
	return all
}

// grown returns a store of some nodes that follow a rule.
func grown(size, rule int) []api.Node {
	var l []api.Node
	for i := range size {
		n := api.Node{Dot: api.Dot{Replica: 1 + i%3*(1+rule*6), Counter: i/3*(1+rule%2) + 1 + i/30}, Time: i*i%17*(rule+1) + 1}
		switch {
		case i%4 > 0:
			n.Parent = l[i*(i+rule)%len(l)].Dot
		case i%3 > 0:
			n.Parent = api.Dot{Replica: 5 + rule, Counter: 100 + i%7}
		}
		if (i+rule)%(2+rule) > 0 {
			n.Rune = rune(0x61 + i%26)
		}
		l = append(l, n)
	}
	return l
}

// noNodes returns nodes that are not valid, each of them in one part, with dots near 1.1.
func noNodes() []api.Node {
	l := nodes("root root 1 U+0061, root root 1 -, 0.1 root 1 U+0061, 65.1 root 1 -, 1.0 root 1 U+0061, 1.4294967296 root 1 -, -1.1 root 1 U+0061, 1.-1 root 1 -, " +
		"1.1 1.1 1 U+0061, 1.1 1.1 1 -, 1.1 0.1 1 U+0061, 1.1 1.0 1 -, 1.1 65.1 1 U+0061, 1.1 1.4294967296 1 -, " +
		"1.1 root 0 U+0061, 1.1 root 0 -, 1.1 root -1 U+0061, 1.1 root 4611686018427387905 U+0061, 1.1 root 9223372036854775807 -, " +
		"1.1 root 1 U+D800, 1.1 root 1 U+DFFF, 1.1 root 1 U+110000")
	return append(l, api.Node{}, api.Node{Dot: dotOf("1.1"), Time: 1, Rune: -1})
}

// noDots returns dots that are not valid.
func noDots() []api.Dot {
	return dots("0.0 0.1 1.0 65.1 1.4294967296 -1.1 1.-1 64.0 4294967297.1 1.4294967297 9223372036854775807.9223372036854775807 -9223372036854775808.1 1.-9223372036854775808")
}

// noStores returns lists that are no stores: out of order or with a dot twice, at each place, and with a node that is not valid, at each place.
func noStores() [][]api.Node {
	all := [][]api.Node{nodes("b, a"), nodes("a, a"), nodes("a, 1.1 root 1 -"), nodes("1.1 root 1 -, a"), nodes("a, b, b"), nodes("a, c, b"), nodes("c, a, b"), nodes("2.1 root 1 U+0061, 1.1 root 1 U+0061"), nodes("1.2 root 1 -, 2.1 root 1 -")}
	for _, n := range noNodes() {
		all = append(all, []api.Node{n})
	}
	good := grown(6, 2)
	for at := range good {
		for _, n := range noNodes() {
			// Only the dot is kept, where another part is wrong, so that the order is right.
			if bad := slices.Clone(good); isDot(n.Dot) && n.Parent != n.Dot {
				n.Dot, bad[at] = bad[at].Dot, n
				all = append(all, bad)
			} else {
				bad[at] = n
				all = append(all, bad)
			}
		}
		own := slices.Clone(good)
		own[at].Parent = own[at].Dot
		all = append(all, own, slices.Insert(slices.Clone(good), at, good[at]))
		if at > 0 {
			swapped := slices.Clone(good)
			swapped[at-1], swapped[at] = swapped[at], swapped[at-1]
			all = append(all, swapped)
		}
	}
	return all
}

// permuted calls f with some nodes in every order.
func permuted(l []api.Node, f func(l []api.Node)) {
	l = slices.Clone(l)
	var swap func(from int)
	swap = func(from int) {
		if from == len(l) {
			f(slices.Clone(l))
			return
		}
		for i := from; i < len(l); i++ {
			l[from], l[i] = l[i], l[from]
			swap(from + 1)
			l[from], l[i] = l[i], l[from]
		}
	}
	swap(0)
}

// mixed returns nodes in another order, which follows a rule.
func mixed(l []api.Node, rule int) []api.Node {
	l = slices.Clone(l)
	for i := range l {
		j := (i*i + rule*i + 7*rule) % len(l)
		l[i], l[j] = l[j], l[i]
	}
	return l
}
