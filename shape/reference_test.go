package shape_test

import (
	"fmt"
	"slices"
	"strings"

	"redpencil/api"
)

// root is the dot that stands for the root.
var root api.Dot

// dotOf returns the dot with a text, which may also be what a dot that is not valid would be written as.
func dotOf(s string) api.Dot {
	var d api.Dot
	fmt.Sscanf(s, "%d.%d", &d.Replica, &d.Counter)
	return d
}

// of returns the node with a text, which may also be what a node that is not valid would be written as; a letter stands for a node of the chapter.
func of(s string) api.Node {
	switch s {
	case "a":
		s = "1.1 root 1 U+0061"
	case "b":
		s = "1.2 1.1 2 -"
	case "c":
		s = "2.2 1.1 1 U+0063"
	case "d":
		s = "1.3 9.9 5 U+0064"
	case "e":
		s = "1.4 2.2 3 U+0065"
	}
	part := strings.Fields(s)
	n := api.Node{Dot: dotOf(part[0]), Parent: dotOf(part[1])}
	fmt.Sscanf(part[2], "%d", &n.Time)
	fmt.Sscanf(part[3], "U+%X", &n.Rune)
	return n
}

// nodes returns the nodes that a text names, with commas in between.
func nodes(s string) []api.Node {
	var l []api.Node
	for part := range strings.SplitSeq(s, ",") {
		if part = strings.TrimSpace(part); part != "" {
			l = append(l, of(part))
		}
	}
	return l
}

// faults returns the faults that a text names: indices, each with a word.
func faults(s string) []api.Fault {
	var l []api.Fault
	for part := range strings.SplitSeq(s, ",") {
		var f api.Fault
		var word string
		if n, _ := fmt.Sscanf(part, "%d %s", &f.Index, &word); n == 2 {
			f.Flaw = api.Flaw(slices.Index([]string{"none", "node", "order", "parent", "time"}, word))
			l = append(l, f)
		}
	}
	return l
}

// isDot says which dots are valid, as chapter 4 defines it.
func isDot(d api.Dot) bool {
	return d.Replica > 0 && d.Replica < 65 && d.Counter > 0 && d.Counter < 4294967296
}

// isBefore says which of two dots stands first in a set, as chapter 4 defines it.
func isBefore(a, b api.Dot) bool {
	return a.Counter < b.Counter || a.Counter == b.Counter && a.Replica < b.Replica
}

// isNode says which nodes are valid, as chapter 9 defines it.
func isNode(n api.Node) bool {
	rune := n.Rune == 0 || 0 < n.Rune && n.Rune < 0xd800 || 0xdfff < n.Rune && n.Rune < 0x110000
	return isDot(n.Dot) && (n.Parent == root || isDot(n.Parent)) && n.Parent != n.Dot && 0 < n.Time && n.Time <= 4611686018427387904 && rune
}

// isStore says which lists are stores, as chapter 10 defines it.
func isStore(l []api.Node) bool {
	for i, n := range l {
		if !isNode(n) || i > 0 && !isBefore(l[i-1].Dot, n.Dot) {
			return false
		}
	}
	return true
}

// flawOf returns the flaw of the node at a place, as the chapter defines it: the least one that applies.
func flawOf(l []api.Node, at int) api.Flaw {
	n := l[at]
	above := slices.IndexFunc(l, func(x api.Node) bool { return x.Dot == n.Parent })
	switch child := n.Parent != root; {
	case !isNode(n):
		return 1
	case at != 0 && !isBefore(l[at-1].Dot, n.Dot):
		return 2
	case child && above < 0:
		return 3
	case child && l[above].Time >= n.Time:
		return 4
	}
	return 0
}

// expectedFaults returns what Faults has to return.
func expectedFaults(l []api.Node) []api.Fault {
	var out []api.Fault
	for i := range l {
		if f := flawOf(l, i); f != 0 {
			out = append(out, api.Fault{Index: i, Flaw: f})
		}
	}
	return out
}

// expectedFirst returns what First has to return.
func expectedFirst(l []api.Node) api.Fault {
	for i := range l {
		if f := flawOf(l, i); f != 0 {
			return api.Fault{Index: i, Flaw: f}
		}
	}
	return api.Fault{Index: -1}
}

// isWhole says which nodes of a store are in its whole part: it goes up from the node to a child of the root, and finds no flaw on the way.
func isWhole(l []api.Node, at int) bool {
	for range l {
		if flawOf(l, at) != 0 {
			return false
		}
		if l[at].Parent == root {
			return true
		}
		at = slices.IndexFunc(l, func(x api.Node) bool { return x.Dot == l[at].Parent })
	}
	return false
}

// expectedWhole returns what Whole has to return.
func expectedWhole(l []api.Node) ([]api.Node, api.Errno) {
	if !isStore(l) {
		return nil, api.ErrArg
	}
	var out []api.Node
	for i := range l {
		if isWhole(l, i) {
			out = append(out, l[i])
		}
	}
	return out, api.OK
}

// letter returns the rune of a dead node for each fifth number, and otherwise one that has one to four bytes.
func letter(i int) rune { return []rune{0, 0x61, 0xe9, 0x20ac, 0x1f600}[i%5] }

// small returns all stores of up to a number of nodes, each of which hangs below the root, one of the others, or a dot that is lacking, at each of some times.
func small(size int, times []int) [][]api.Node {
	places := []api.Dot{dotOf("1.1"), dotOf("2.1"), dotOf("1.2"), dotOf("2.2")}
	parents := append([]api.Dot{root, dotOf("9.9")}, places[:size]...)
	all := [][]api.Node{nil}
	for i, d := range places[:size] {
		for _, l := range slices.Clone(all) {
			for _, parent := range parents {
				for _, time := range times {
					if parent != d {
						n := api.Node{Dot: d, Parent: parent, Time: time, Rune: letter(len(all) + i)}
						all = append(all, append(slices.Clone(l), n))
					}
				}
			}
		}
	}
	return all
}

// smallStores returns all stores of up to four nodes at three times, and of up to three at the greatest ones.
func smallStores() [][]api.Node {
	return append(small(4, []int{1, 2, 3}), small(3, []int{api.MaxTime - 1, api.MaxTime})...)
}

// lists returns all lists of up to three nodes out of some, which are valid or not, and of which several have one dot.
func lists() [][]api.Node {
	some := nodes("a, b, c, 1.1 root 2 -, 1.1 2.1 3 U+0061, 2.1 1.1 2 -, 2.1 root 4 U+0062, 1.2 2.1 3 U+0063, 1.1 root 0 -, 1.1 1.1 1 -, 2.1 1.1 9 U+D800, 0.1 root 5 -, 2.2 0.1 6 -, 1.2 1.1 4611686018427387905 -, 64.4294967295 1.2 4611686018427387904 U+10FFFF, root root 1 -, 1.-1 1.2 -7 -")
	all := [][]api.Node{nil, {}}
	for _, x := range some {
		all = append(all, []api.Node{x})
		for _, y := range some {
			all = append(all, []api.Node{x, y})
			for _, z := range some {
				all = append(all, []api.Node{x, y, z})
			}
		}
	}
	return all
}

// chain returns a well-formed store of some nodes each of which is the child of the one before.
func chain(size int) []api.Node {
	var l []api.Node
	above := root
	for i := range size {
		l = append(l, api.Node{Dot: api.Dot{Replica: 1 + i*i%64, Counter: 1 + i}, Parent: above, Time: 1 + 2*i, Rune: letter(i)})
		above = l[i].Dot
	}
	return l
}

// rearranged returns a store whose nodes hang together as those of another one do, with other dots: the node at a place stands at a given one.
func rearranged(l []api.Node, place func(i int) int) []api.Node {
	dot := map[api.Dot]api.Dot{root: root}
	for i, n := range l {
		dot[n.Dot] = api.Dot{Replica: 1 + place(i)%3, Counter: 1 + place(i)/3}
	}
	out := make([]api.Node, len(l))
	for i, n := range l {
		above, is := dot[n.Parent]
		if !is {
			above = n.Parent
		}
		n.Dot, n.Parent = dot[n.Dot], above
		out[place(i)] = n
	}
	return out
}

// backward returns a store whose nodes hang together as those of another one do, but in the opposite order.
func backward(l []api.Node) []api.Node {
	return rearranged(l, func(i int) int { return len(l) - 1 - i })
}

// mixed returns a store whose nodes hang together as those of another one do, but in an order without a rule that a reader would see. The other one has no multiple of 7919 nodes.
func mixed(l []api.Node) []api.Node {
	return rearranged(l, func(i int) int { return i * 7919 % len(l) })
}

// arms returns a well-formed store of some chains of some nodes, which begin at one node.
func arms(count, size int) []api.Node {
	l := nodes("1.1 root 5 U+0061")
	for i := range size {
		for k := range count {
			n := api.Node{Dot: api.Dot{Replica: 1 + k, Counter: 2 + i}, Parent: l[0].Dot, Time: 6 + i + k, Rune: letter(i + k)}
			if i > 0 {
				n.Parent = api.Dot{Replica: 1 + k, Counter: 1 + i}
			}
			l = append(l, n)
		}
	}
	return l
}

// spoilt returns a store with a flaw of the node at a place: its parent is lacking, or, if it is below another node, its time is that of the parent.
func spoilt(l []api.Node, at int, f api.Flaw) []api.Node {
	out := slices.Clone(l)
	if f == api.FlawParent {
		out[at].Parent = dotOf("60.4000000000")
		return out
	}
	above := slices.IndexFunc(l, func(x api.Node) bool { return x.Dot == l[at].Parent })
	if above >= 0 {
		out[at].Time = l[above].Time
	}
	return out
}

// stores returns stores of no nodes, of one, of few and of many: well-formed ones, ones in which all nodes have flaws, and others; with chains in each order, arms, circles, dead nodes, and everything at its limit.
func stores() [][]api.Node {
	all := [][]api.Node{
		nil, {}, nodes("a"), nodes("b"), nodes("a, b"), nodes("a, c"), nodes("a, b, c, d, e"), nodes("d"), nodes("1.1 root 1 -"), nodes("64.4294967295 root 4611686018427387904 U+10FFFF"),
		nodes("1.1 64.4294967295 4611686018427387904 U+0001, 64.4294967295 root 4611686018427387903 U+D7FF"), nodes("1.1 64.4294967295 4611686018427387904 -, 64.4294967295 root 4611686018427387904 U+E000"),
		nodes("1.1 1.2 1 U+0061, 1.2 1.1 2 U+0062"), nodes("1.1 1.3 3 -, 1.2 1.1 4 -, 1.3 1.2 5 -, 1.4 1.3 6 -"), nodes("1.1 1.2 2 -, 1.2 1.3 2 -, 1.3 9.9 2 -"),
	}
	for _, l := range [][]api.Node{chain(7), arms(3, 4), chain(40), arms(5, 9)} {
		for _, s := range [][]api.Node{l, backward(l), mixed(l)} {
			all = append(all, s)
			for at := range s {
				all = append(all, spoilt(s, at, api.FlawParent), spoilt(s, at, api.FlawTime), spoilt(spoilt(s, at, api.FlawTime), at*at%len(s), api.FlawParent))
			}
		}
	}
	return all
}

// noDots returns dots that are not valid.
func noDots() []string {
	return []string{"root", "0.1", "1.0", "65.1", "1.4294967296", "-1.1", "1.-1", "9223372036854775807.9223372036854775807", "-9223372036854775808.-9223372036854775808"}
}

// noNodes returns nodes that are not valid, each of them in one part; the dot is 1.1, where it is allowed.
func noNodes() []api.Node {
	l := nodes("1.1 1.1 1 U+0061, 1.1 root 0 U+0061, 1.1 root -1 -, 1.1 root -9223372036854775808 -, 1.1 root 4611686018427387905 U+0061, 1.1 root 9223372036854775807 -, 1.1 root 1 U+D800, 1.1 root 1 U+DFFF, 1.1 root 1 U+110000, 1.1 root 1 U+7FFFFFFF")
	for _, r := range []rune{-1, -1 << 31} {
		l = append(l, api.Node{Dot: dotOf("1.1"), Time: 1, Rune: r})
	}
	for _, d := range noDots() {
		l = append(l, of(d+" root 1 U+0061"))
		if d != "root" {
			l = append(l, of("1.1 "+d+" 1 U+0061"))
		}
	}
	return l
}

// noStores returns lists that are no stores: with a node that is not valid, or one whose dot does not come after that of the node before, at each place.
func noStores() [][]api.Node {
	all := [][]api.Node{nodes("b, a"), nodes("a, a"), nodes("1.1 root 1 U+0061, 1.1 root 2 -"), nodes("2.1 root 1 -, 1.1 root 1 -")}
	good := mixed(arms(2, 3))
	for at := range len(good) {
		for _, n := range noNodes() {
			// Where another part is wrong, the dot is one that fits, so that the order is right.
			if isDot(n.Dot) {
				if n.Parent == n.Dot {
					n.Parent = good[at].Dot
				}
				n.Dot = good[at].Dot
			}
			bad := slices.Clone(good)
			bad[at] = n
			all = append(all, bad)
		}
		all = append(all, slices.Insert(slices.Clone(good), at, good[at]), slices.Insert(slices.Clone(good), at, good[len(good)-1]))
		if at > 0 {
			swapped := slices.Clone(good)
			swapped[at-1], swapped[at] = swapped[at], swapped[at-1]
			all = append(all, swapped)
		}
	}
	for _, n := range noNodes() {
		all = append(all, []api.Node{n})
	}
	return all
}

// everything returns lists of all kinds.
func everything() [][]api.Node {
	return slices.Concat(stores(), noStores(), lists(), small(3, []int{1, 2}))
}
