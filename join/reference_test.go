package join_test

import (
	"fmt"
	"slices"
	"strings"

	"redpencil/api"
)

// The states of the chapter.
const (
	chapterA = "1.1 root 1 U+0078, 2.1 1.1 2 U+0079"
	chapterB = "1.1 root 1 -, 1.2 1.1 3 U+007A"
	chapterC = "1.1 root 1 U+0077"
)

// dotOf returns the dot with a text, which may also be what a dot that is not valid would be written as.
func dotOf(s string) api.Dot {
	var d api.Dot
	fmt.Sscanf(s, "%d.%d", &d.Replica, &d.Counter)
	return d
}

// node returns the node with a text, which may also be what a node that is not valid would be written as.
func node(s string) api.Node {
	part := strings.Fields(s)
	n := api.Node{Dot: dotOf(part[0]), Parent: dotOf(part[1])}
	fmt.Sscanf(part[2], "%d", &n.Time)
	fmt.Sscanf(part[3], "U+%X", &n.Rune)
	return n
}

// of returns the state with the nodes that a text names, with commas in between.
func of(s string) api.State {
	var out api.State
	for part := range strings.SplitSeq(s, ",") {
		if strings.TrimSpace(part) != "" {
			out = append(out, node(part))
		}
	}
	return out
}

// list returns the states with some texts.
func list(texts ...string) []api.State {
	var l []api.State
	for _, s := range texts {
		l = append(l, of(s))
	}
	return l
}

// isDot says which dots are valid, as chapter 4 defines it.
func isDot(d api.Dot) bool {
	return d.Replica > 0 && d.Replica < 65 && d.Counter > 0 && d.Counter < 4294967296
}

// isBefore says which of two dots stands first in a store, as chapter 4 defines it.
func isBefore(a, b api.Dot) bool {
	return a.Counter < b.Counter || a.Counter == b.Counter && a.Replica < b.Replica
}

// isNode says which nodes are valid, as chapter 9 defines it.
func isNode(n api.Node) bool {
	rune := n.Rune == 0 || 0 < n.Rune && n.Rune < 0xd800 || 0xdfff < n.Rune && n.Rune < 0x110000
	return isDot(n.Dot) && (n.Parent == api.Dot{} || isDot(n.Parent)) && n.Parent != n.Dot && 0 < n.Time && n.Time <= 4611686018427387904 && rune
}

// isState says which states are stores, as chapter 10 defines it: each dot before all that come after it.
func isState(s api.State) bool {
	for i, n := range s {
		if !isNode(n) {
			return false
		}
		for _, later := range s[i+1:] {
			if !isBefore(n.Dot, later.Dot) {
				return false
			}
		}
	}
	return true
}

// isSame says which states are equal, node by node.
func isSame(a, b api.State) bool {
	for i, n := range a {
		if i >= len(b) || b[i].Dot != n.Dot || b[i].Parent != n.Parent || b[i].Time != n.Time || b[i].Rune != n.Rune {
			return false
		}
	}
	return len(a) == len(b)
}

// doAgree says which states agree, as the chapter defines it: it looks at each pair of nodes.
func doAgree(a, b api.State) bool {
	for _, x := range a {
		for _, y := range b {
			same := x.Parent == y.Parent && x.Time == y.Time && (x.Rune == y.Rune || x.Rune == 0 || y.Rune == 0)
			if x.Dot == y.Dot && !same {
				return false
			}
		}
	}
	return true
}

// joined returns the join of two states that agree, as the chapter defines it: it gathers them by their dots, and puts them in order afterwards.
func joined(a, b api.State) api.State {
	has := map[api.Dot]api.Node{}
	for _, n := range slices.Concat(a, b) {
		if was, is := has[n.Dot]; !is || was.Rune != 0 {
			has[n.Dot] = n
		}
	}
	var out api.State
	for _, n := range has {
		out = append(out, n)
	}
	slices.SortFunc(out, func(x, y api.Node) int {
		if isBefore(x.Dot, y.Dot) {
			return -1
		}
		return 1
	})
	return out
}

// expectedAgree returns what Agree has to return.
func expectedAgree(a, b api.State) (bool, api.Errno) {
	if !isState(a) || !isState(b) {
		return false, api.ErrArg
	}
	return doAgree(a, b), api.OK
}

// expectedJoin returns what Join has to return.
func expectedJoin(a, b api.State) (api.State, api.Errno) {
	switch {
	case !isState(a) || !isState(b):
		return nil, api.ErrArg
	case !doAgree(a, b):
		return nil, api.ErrClash
	}
	return joined(a, b), api.OK
}

// expectedAll returns what All has to return: it holds each state against each other one, and joins them one after the other.
func expectedAll(l []api.State) (api.State, api.Errno) {
	for _, s := range l {
		if !isState(s) {
			return nil, api.ErrArg
		}
	}
	var out api.State
	for i, s := range l {
		for _, other := range l[:i] {
			if !doAgree(s, other) {
				return nil, api.ErrClash
			}
		}
		out = joined(out, s)
	}
	return out, api.OK
}

// expectedWithin returns what Within has to return.
func expectedWithin(a, b api.State) (bool, api.Errno) {
	both, e := expectedJoin(a, b)
	return e == api.OK && isSame(both, b), e
}

// small returns all states with some of the dots 1.1, 2.1 and 1.2, of each of which there are nodes that agree, and others that differ in one part: of the first dots of these as many as asked for.
func small(dots int) []api.State {
	all := []api.State{nil}
	for _, d := range []string{"1.1", "2.1", "1.2"}[:dots] {
		for _, s := range slices.Clone(all) {
			for _, rest := range []string{" root 2 U+0061", " root 2 -", " root 2 U+0062", " 9.9 2 U+0061", " 9.9 2 -", " root 3 U+0061"} {
				all = append(all, append(slices.Clone(s), node(d+rest)))
			}
		}
	}
	return all
}

// letter returns a rune that has one to four bytes.
func letter(i int) rune { return []rune{0x61, 0xe9, 0x20ac, 0x1f600}[i%4] }

// text returns a state as it comes from typing, each node below an earlier one, with all nodes alive.
func text(size int) api.State {
	var out api.State
	for i := range size {
		n := api.Node{Dot: api.Dot{Replica: 1 + i%3, Counter: 1 + i/3}, Time: 1 + i, Rune: letter(i)}
		if i > 0 {
			n.Parent = out[i*i/2%i].Dot
		}
		out = append(out, n)
	}
	return out
}

// part returns some nodes of a state, some of which are dead, both as a rule says: so all that it returns of one state agree.
func part(s api.State, rule int) api.State {
	var out api.State
	for i, n := range s {
		if (i*i+rule*i/3)%(2+rule%4) == 0 {
			continue
		}
		if (i*rule+i/2)%5 == 1 {
			n.Rune = 0
		}
		out = append(out, n)
	}
	return out
}

// parts returns states that agree: of a text nothing, the whole, the beginning, the end, and many parts with dead nodes.
func parts(size int) []api.State {
	whole := text(size)
	all := []api.State{nil, whole, slices.Clone(whole[:size/2]), slices.Clone(whole[size/2:]), slices.Clone(whole[size-1:])}
	for rule := range 12 {
		all = append(all, part(whole, rule))
	}
	return all
}

// spoilt returns a state that does not agree with one from which it comes: the node at a place differs in one part, which a number says.
func spoilt(s api.State, at, how int) api.State {
	out := slices.Clone(s)
	n := &out[at]
	switch how % 4 {
	case 0:
		n.Time++
	case 1:
		n.Time, n.Rune = n.Time+1, 0
	case 2:
		n.Parent, n.Rune = dotOf("60.4000000000"), 0
	default:
		n.Rune = 0x77
	}
	return out
}

// states returns states of all kinds: small ones, parts of texts, ones that do not agree with these, and everything at its limit.
func states() []api.State {
	all := append(list("", chapterA, chapterB, chapterC, "64.4294967295 root 4611686018427387904 U+10FFFF", "64.4294967295 root 4611686018427387904 -", "64.4294967295 64.4294967294 4611686018427387904 -", "64.4294967295 root 4611686018427387903 -",
		"1.1 64.4294967295 4611686018427387904 U+0001, 64.1 1.1 1 -, 1.4294967295 64.1 2 U+D7FF, 64.4294967295 root 4611686018427387904 U+E000", "1.1 1.2 1 U+0061, 1.2 1.1 1 U+0062", "1.1 root 1 U+0001", "1.1 root 1 -"), api.State{})
	for _, size := range []int{2, 9, 40} {
		all = append(all, parts(size)...)
		for at := 0; at < size; at += 3 {
			all = append(all, spoilt(text(size), at, at/3))
		}
	}
	return append(all, small(2)...)
}

// noNodes returns nodes that are not valid, each of them in one part; the dot is 1.1, where it is allowed.
func noNodes() []api.Node {
	l := of("1.1 1.1 1 U+0061, 1.1 root 0 U+0061, 1.1 root -1 -, 1.1 root -9223372036854775808 -, 1.1 root 4611686018427387905 U+0061, 1.1 root 9223372036854775807 -, 1.1 root 1 U+D800, 1.1 root 1 U+DFFF, 1.1 root 1 U+110000, 1.1 root 1 U+7FFFFFFF")
	for _, r := range []rune{-1, -1 << 31} {
		l = append(l, api.Node{Dot: dotOf("1.1"), Time: 1, Rune: r})
	}
	for _, d := range []string{"root", "0.1", "1.0", "65.1", "1.4294967296", "-1.1", "1.-1", "9223372036854775807.9223372036854775807", "-9223372036854775808.-9223372036854775808"} {
		l = append(l, node(d+" root 1 U+0061"))
		if d != "root" {
			l = append(l, node("1.1 "+d+" 1 U+0061"))
		}
	}
	return l
}

// noStates returns states that are no store: at each place a node that is not valid, one that stands there twice, or two in the wrong order.
func noStates() []api.State {
	all := list("1.2 root 1 U+0061, 1.1 root 1 U+0061", "1.1 root 1 U+0061, 1.1 root 1 U+0061", "1.1 root 1 U+0061, 1.1 root 1 -", "1.1 root 1 U+0061, 1.1 root 2 -", "2.1 root 1 -, 1.1 root 1 -", "1.2 root 1 -, 2.1 root 1 -")
	good := text(6)
	for at := range good {
		for _, n := range noNodes() {
			// Where another part is wrong, the dot is one that fits, so that the order is right.
			if isDot(n.Dot) {
				if n.Parent == n.Dot {
					n.Parent = good[at].Dot
				}
				n.Dot = good[at].Dot
			}
			bad := slices.Clone(good)
			bad[at] = n
			all = append(all, bad)
		}
		all = append(all, slices.Insert(slices.Clone(good), at, good[at]))
		if at > 0 {
			swapped := slices.Clone(good)
			swapped[at-1], swapped[at] = swapped[at], swapped[at-1]
			all = append(all, swapped)
		}
	}
	for _, n := range noNodes() {
		all = append(all, api.State{n})
	}
	return all
}

// permuted calls f with some states in every order.
func permuted(l []api.State, f func(l []api.State)) {
	l = slices.Clone(l)
	var swap func(from int)
	swap = func(from int) {
		if from == len(l) {
			f(slices.Clone(l))
			return
		}
		for i := from; i < len(l); i++ {
			l[from], l[i] = l[i], l[from]
			swap(from + 1)
			l[from], l[i] = l[i], l[from]
		}
	}
	swap(0)
}
