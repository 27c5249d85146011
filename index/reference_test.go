package index_test

import (
	"fmt"
	"math"
	"slices"
	"strings"

	"redpencil/api"
)

// root is the dot that stands for the root.
var root api.Dot

// chapter is the store of the chapter's examples: that of layer 11, with a dead node.
const chapter = "1.1 root 1 U+0061, 1.2 1.1 2 U+0062, 2.2 1.1 2 -, 2.3 1.2 3 U+0064, 1.4 root 4 U+0065, 3.4 9.9 1 U+0066, 3.5 3.6 1 U+0067, 3.6 3.5 1 U+0068"

// dotOf returns the dot with a text, which may also be what a dot that is not valid would be written as.
func dotOf(s string) api.Dot {
	var d api.Dot
	fmt.Sscanf(s, "%d.%d", &d.Replica, &d.Counter)
	return d
}

// dots returns the dots that a text names, in its order.
func dots(s string) []api.Dot {
	var l []api.Dot
	for _, part := range strings.Fields(s) {
		l = append(l, dotOf(part))
	}
	return l
}

// of returns the node with a text, which may also be what a node that is not valid would be written as.
func of(s string) api.Node {
	part := strings.Fields(s)
	n := api.Node{Dot: dotOf(part[0]), Parent: dotOf(part[1])}
	fmt.Sscanf(part[2], "%d", &n.Time)
	fmt.Sscanf(part[3], "U+%X", &n.Rune)
	return n
}

// nodes returns the nodes that a text names, with commas in between.
func nodes(s string) []api.Node {
	var l []api.Node
	for part := range strings.SplitSeq(s, ",") {
		if strings.TrimSpace(part) != "" {
			l = append(l, of(part))
		}
	}
	return l
}

// dotsOf returns the dots of some nodes.
func dotsOf(l []api.Node) []api.Dot {
	var out []api.Dot
	for _, n := range l {
		out = append(out, n.Dot)
	}
	return out
}

// isDot says which dots are valid, as chapter 4 defines it.
func isDot(d api.Dot) bool {
	return d.Replica > 0 && d.Replica < 65 && d.Counter > 0 && d.Counter < 4294967296
}

// isBefore says which of two dots stands first in a set, as chapter 4 defines it.
func isBefore(a, b api.Dot) bool {
	return a.Counter < b.Counter || a.Counter == b.Counter && a.Replica < b.Replica
}

// isNode says which nodes are valid, as chapter 9 defines it.
func isNode(n api.Node) bool {
	rune := n.Rune == 0 || 0 < n.Rune && n.Rune < 0xd800 || 0xdfff < n.Rune && n.Rune < 0x110000
	return isDot(n.Dot) && (n.Parent == root || isDot(n.Parent)) && n.Parent != n.Dot && 0 < n.Time && n.Time <= 4611686018427387904 && rune
}

// isStore says which lists are stores, as chapter 10 defines it.
func isStore(l []api.Node) bool {
	for i, n := range l {
		if !isNode(n) || i > 0 && !isBefore(l[i-1].Dot, n.Dot) {
			return false
		}
	}
	return true
}

// standsFirst says which of two nodes with one parent stands before the other one, as chapter 9 defines it.
func standsFirst(a, b api.Node) bool {
	return a.Time > b.Time || a.Time == b.Time && isBefore(b.Dot, a.Dot)
}

// kids returns the nodes of a store with a parent, each of them put in front of the first one that it stands before.
func kids(l []api.Node, d api.Dot) []api.Node {
	var out []api.Node
	for _, n := range l {
		if n.Parent != d {
			continue
		}
		at := 0
		for at < len(out) && !standsFirst(n, out[at]) {
			at++
		}
		out = slices.Insert(out, at, n)
	}
	return out
}

// reachedOf returns the dots of the reached nodes of a store, as the chapter defines these: again and again, until there are no more.
func reachedOf(l []api.Node) map[api.Dot]bool {
	reached := map[api.Dot]bool{}
	for more := true; more; {
		more = false
		for _, n := range l {
			if !reached[n.Dot] && (n.Parent == root || reached[n.Parent]) {
				reached[n.Dot], more = true, true
			}
		}
	}
	return reached
}

// orderOf returns what is below a reached dot, or below the root, in the order of the tree, as chapter 11 defines it.
func orderOf(l []api.Node, d api.Dot) []api.Node {
	var out []api.Node
	for _, n := range kids(l, d) {
		out = append(append(out, n), orderOf(l, n.Dot)...)
	}
	return out
}

// visibleOf returns the visible nodes of a store, as the chapter defines these.
func visibleOf(l []api.Node) []api.Node {
	var out []api.Node
	for _, n := range orderOf(l, root) {
		if n.Rune != 0 {
			out = append(out, n)
		}
	}
	return out
}

// bytesOf returns the bytes of a character, as chapter 2 defines these.
func bytesOf(r rune) string {
	rest := func(n rune) byte { return byte(0x80 + n%0x40) }
	switch {
	case r < 0x80:
		return string([]byte{byte(r)})
	case r < 0x800:
		return string([]byte{byte(0xc0 + r/0x40), rest(r)})
	case r < 0x10000:
		return string([]byte{byte(0xe0 + r/0x1000), rest(r / 0x40), rest(r)})
	}
	return string([]byte{byte(0xf0 + r/0x40000), rest(r / 0x1000), rest(r / 0x40), rest(r)})
}

// expectedText returns what Text and Runes have to return.
func expectedText(l []api.Node) (string, []rune, api.Errno) {
	if !isStore(l) {
		return "", nil, api.ErrArg
	}
	s, out := "", []rune{}
	for _, n := range visibleOf(l) {
		s, out = s+bytesOf(n.Rune), append(out, n.Rune)
	}
	return s, out, api.OK
}

// expectedAt returns what At has to return.
func expectedAt(l []api.Node, i int) (api.Node, api.Errno) {
	if !isStore(l) {
		return api.Node{}, api.ErrArg
	}
	for at, n := range visibleOf(l) {
		if at == i {
			return n, api.OK
		}
	}
	return api.Node{}, api.ErrRange
}

// expectedOf returns what Of has to return.
func expectedOf(l []api.Node, d api.Dot) (int, api.Errno) {
	if !isStore(l) || !isDot(d) {
		return 0, api.ErrArg
	}
	for at, n := range visibleOf(l) {
		if n.Dot == d {
			return at, api.OK
		}
	}
	return 0, api.ErrNone
}

// expectedBefore returns what Before has to return: it counts in the order of the tree.
func expectedBefore(l []api.Node, d api.Dot) (int, api.Errno) {
	if !isStore(l) || !isDot(d) {
		return 0, api.ErrArg
	}
	count := 0
	for _, n := range orderOf(l, root) {
		if n.Dot == d {
			return count, api.OK
		}
		if n.Rune != 0 {
			count++
		}
	}
	return 0, api.ErrNone
}

// expectedLeft returns what Left has to return.
func expectedLeft(l []api.Node, i int) (api.Dot, api.Errno) {
	if !isStore(l) {
		return root, api.ErrArg
	}
	left := root
	for at, n := range visibleOf(l) {
		if at == i {
			return left, api.OK
		}
		left = n.Dot
	}
	if i == len(visibleOf(l)) {
		return left, api.OK
	}
	return root, api.ErrRange
}

// expectedDots returns what Dots has to return.
func expectedDots(l []api.Node, from, to int) ([]api.Dot, api.Errno) {
	if !isStore(l) {
		return nil, api.ErrArg
	}
	seen := visibleOf(l)
	if from < 0 || from > to || to > len(seen) {
		return nil, api.ErrRange
	}
	var out []api.Dot
	for at, n := range seen {
		if from <= at && at < to {
			out = append(out, n.Dot)
		}
	}
	return out, api.OK
}

// letter returns the rune of a dead node for each fifth number, and otherwise one that has one to four bytes.
func letter(i int) rune { return []rune{0, 0x61, 0xe9, 0x20ac, 0x1f600}[i%5] }

// forests returns all stores of up to four nodes, each of which hangs below the root, one of the others, or a dot that is lacking; with some times, so that brothers stand in either order, and some dead nodes.
func forests() [][]api.Node {
	places := dots("1.1 2.1 1.2 2.2")
	times := [][]int{{1, 1, 1, 1}, {1, 2, 3, 4}, {4, 3, 2, 1}, {2, 1, 2, 1}}
	all := [][]api.Node{nil, {}}
	for size := 1; size <= len(places); size++ {
		parents := append([]api.Dot{root, dotOf("9.9")}, places[:size]...)
		count := 1
		for range size {
			count *= len(parents)
		}
		for which := range count {
			var l []api.Node
			for i := range size {
				n := api.Node{Dot: places[i], Parent: parents[which%len(parents)], Time: times[(which/7+size)%len(times)][i], Rune: letter(which/11 + which + i)}
				which /= len(parents)
				if n.Parent != n.Dot {
					l = append(l, n)
				}
			}
			// A node without a place is left out, so that lists with gaps are among these.
			all = append(all, l)
		}
	}
	return all
}

// stores returns stores of no nodes, of one, of few and of many: with brothers, chains, lacking parents, circles, dead nodes, and everything at its limit.
func stores() [][]api.Node {
	all := [][]api.Node{
		nil, {}, nodes(chapter), nodes("1.1 root 1 U+0061"), nodes("1.1 root 1 -"), nodes("1.1 9.9 1 U+0061"), nodes("1.1 root 1 U+0061, 1.2 1.1 2 U+0062"),
		nodes("64.4294967295 64.4294967294 4611686018427387904 U+10FFFF"), nodes("64.4294967295 root 4611686018427387904 -"),
		nodes("1.1 64.4294967295 4611686018427387904 U+0001, 64.1 1.1 1 -, 1.4294967295 64.1 2 U+D7FF, 64.4294967295 root 4611686018427387903 U+E000"),
		nodes("1.1 root 1 -, 1.2 1.1 1 -, 2.2 root 3 -"), nodes("1.1 root 1 -, 1.2 1.1 2 U+07FF, 1.3 1.2 3 -, 1.4 1.3 4 U+FFFD, 1.5 1.4 5 -"), nodes("1.1 9.9 1 U+0061, 1.2 9.9 1 U+0800, 2.2 1.2 1 -"),
		nodes("1.1 1.2 1 U+0061, 1.2 1.1 1 U+0062"), nodes("1.1 1.3 1 U+0061, 1.2 1.1 1 U+0062, 1.3 1.2 1 U+0063, 1.4 1.3 1 U+0064, 2.4 1.1 1 -, 3.4 root 1 U+0065"),
	}
	for _, size := range []int{5, 20, 60} {
		for rule := range 6 {
			all = append(all, grown(size, rule))
		}
	}
	return all
}

// grown returns a store of some nodes that follow a rule: some below others, before or behind them, so that there are circles, too, some below the root, and some below lacking dots.
func grown(size, rule int) []api.Node {
	var l []api.Node
	for i := range size {
		l = append(l, api.Node{Dot: api.Dot{Replica: 1 + i%3*(1+rule*6), Counter: i/3*(1+rule%2) + 1 + i/30}, Time: i*i%(5+3*rule)*(rule+1) + 1})
	}
	for i := range l {
		switch {
		case i%7 == 6 && rule > 1:
			l[i].Parent = l[(i+rule)%size].Dot
		case i%11 == 9:
			l[i].Parent = api.Dot{Replica: 5 + rule, Counter: 1000 + i%7}
		case i%4 > 0:
			l[i].Parent = l[i*(i+rule)%i].Dot
			if rule%2 == 1 {
				l[i].Parent = l[i-1-i%2*(i/3)].Dot
			}
		}
		if (i+rule)%(2+rule) > 0 {
			l[i].Rune = letter(1 + i%4)
		}
		if l[i].Parent == l[i].Dot {
			l[i].Parent = root
		}
	}
	return l
}

// chain returns some nodes each of which is the child of the one before, the first one that of a given dot.
func chain(size int, below api.Dot) []api.Node {
	var l []api.Node
	for i := range size {
		l = append(l, api.Node{Dot: api.Dot{Replica: 1 + i*i%64, Counter: 1 + i}, Parent: below, Time: 1 + i*7%30, Rune: letter(i)})
		below = l[i].Dot
	}
	return l
}

// brothers returns some nodes with one parent, with times that are equal for some of them.
func brothers(size int, below api.Dot) []api.Node {
	var l []api.Node
	for i := range size {
		l = append(l, api.Node{Dot: api.Dot{Replica: 1 + i%3, Counter: 1 + i/3}, Parent: below, Time: 1 + i*i%41, Rune: letter(i)})
	}
	return l
}

// circle returns some nodes each of which is the child of the one before, the first one that of the last one, and each with a child that is below the circle.
func circle(size int) []api.Node {
	l := chain(size, root)
	l[0].Parent = l[size-1].Dot
	for i := range size {
		l = append(l, api.Node{Dot: api.Dot{Replica: 1, Counter: size + 1 + i}, Parent: l[i].Dot, Time: 1 + i, Rune: 0x62})
	}
	return l
}

// noDots returns dots that are not valid, and not the root.
func noDots() []api.Dot {
	return dots("0.1 1.0 65.1 1.4294967296 -1.1 1.-1 64.0 0.4294967295 4294967297.1 1.4294967297 9223372036854775807.9223372036854775807 -9223372036854775808.1 1.-9223372036854775808")
}

// noNodes returns nodes that are not valid, each of them in one part, with dots near 1.1.
func noNodes() []api.Node {
	l := nodes("root root 1 U+0061, 0.1 root 1 U+0061, 65.1 root 1 -, 1.0 root 1 U+0061, 1.4294967296 root 1 -, -1.1 root 1 U+0061, 1.-1 root 1 -, " +
		"1.1 1.1 1 U+0061, 1.1 0.1 1 U+0061, 1.1 1.0 1 -, 1.1 65.1 1 U+0061, 1.1 1.4294967296 1 -, " +
		"1.1 root 0 U+0061, 1.1 root -1 U+0061, 1.1 root 4611686018427387905 U+0061, 1.1 root 9223372036854775807 -, 1.1 root 1 U+D800, 1.1 root 1 U+DFFF, 1.1 root 1 U+110000")
	return append(l, api.Node{}, api.Node{Dot: dotOf("1.1"), Time: 1, Rune: -1})
}

// noStores returns lists that are no stores: out of order or with a dot twice, at each place, and with a node that is not valid, at each place.
func noStores() [][]api.Node {
	all := [][]api.Node{nodes("1.2 root 1 U+0061, 1.1 root 1 U+0062"), nodes("1.1 root 1 U+0061, 1.1 root 1 U+0061"), nodes("1.1 root 1 U+0061, 1.1 root 1 -"), nodes("2.1 root 1 U+0061, 1.1 2.1 2 U+0061"), nodes("1.2 root 1 -, 2.1 root 1 -")}
	for _, n := range noNodes() {
		all = append(all, []api.Node{n})
	}
	good := grown(6, 2)
	for at := range good {
		for _, n := range noNodes() {
			bad := slices.Clone(good)
			// Where another part is wrong, the dot is one that fits, so that the order is right.
			if isDot(n.Dot) {
				if n.Parent == n.Dot {
					n.Parent = good[at].Dot
				}
				n.Dot = good[at].Dot
			}
			bad[at] = n
			all = append(all, bad)
		}
		all = append(all, slices.Insert(slices.Clone(good), at, good[at]))
		if at > 0 {
			swapped := slices.Clone(good)
			swapped[at-1], swapped[at] = swapped[at], swapped[at-1]
			all = append(all, swapped)
		}
	}
	return all
}

// asked returns dots to ask a list for: the root, those of its nodes and of their parents, others near to them, and some that are not valid.
func asked(l []api.Node) []api.Dot {
	all := append(dots("0.0 1.1 2.2 9.9 64.4294967295 64.4294967294 1.4294967295"), noDots()...)
	for _, n := range l {
		all = append(all, n.Dot, n.Parent, api.Dot{Replica: n.Dot.Replica + 1, Counter: n.Dot.Counter}, api.Dot{Replica: n.Dot.Replica, Counter: n.Dot.Counter + 1})
	}
	return all
}

// indices returns numbers to ask a list for: from below zero to beyond all of its nodes, and the least and the greatest ones.
func indices(l []api.Node) []int {
	all := []int{math.MinInt, math.MinInt + 1, -1 << 32, math.MaxInt, math.MaxInt - 1, 1 << 32}
	for i := -2; i <= len(l)+2; i++ {
		all = append(all, i)
	}
	return all
}
