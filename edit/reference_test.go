package edit_test

import (
	"maps"
	"math"
	"slices"
	"strings"

	"redpencil/api"
	"redpencil/dot"
	"redpencil/node"
	"redpencil/shape"
	"redpencil/store"
	"redpencil/walk"
)

// chapter is the state of the chapter's examples, whose text is ac.
const chapter = "1.1 root 1 U+0061, 1.2 1.1 2 -, 1.3 1.2 3 U+0063"

// at returns a dot, which need not be valid.
func at(replica, counter int) api.Dot { return api.Dot{Replica: replica, Counter: counter} }

// dotOf returns the dot with a text.
func dotOf(s string) api.Dot {
	d, e := dot.Parse(s)
	if e != api.OK {
		panic("no dot: " + s)
	}
	return d
}

// of returns the nodes that a text names, with commas in between.
func of(s string) api.State {
	var out api.State
	for part := range strings.SplitSeq(s, ",") {
		if part = strings.TrimSpace(part); part == "" {
			continue
		}
		n, e := node.Parse(part)
		if e != api.OK {
			panic("no node: " + part)
		}
		out = append(out, n)
	}
	return out
}

// visible returns the visible nodes of a state, as chapter 12 defines these.
func visible(s api.State) []api.Node {
	var out []api.Node
	order, _ := walk.Order(s)
	for _, n := range order {
		if n.Rune != 0 {
			out = append(out, n)
		}
	}
	return out
}

// textOf returns the text of a state.
func textOf(s api.State) string {
	var out strings.Builder
	for _, n := range visible(s) {
		out.WriteRune(n.Rune)
	}
	return out.String()
}

// inText says which runes may be in a text, as chapter 2 defines it.
func inText(r rune) bool { return 0 < r && r < 0xd800 || 0xdfff < r && r < 0x110000 }

// expectedInsert returns what Insert has to return: it makes the nodes, and looks afterwards whether they may be there.
func expectedInsert(s api.State, d api.Dot, index int, l []rune) (api.State, api.Errno) {
	if shape.First(s).Index >= 0 || !dot.Valid(d) {
		return nil, api.ErrArg
	}
	seen := visible(s)
	if index < 0 || index > len(seen) {
		return nil, api.ErrRange
	}
	if len(l) > 10000 {
		return nil, api.ErrLong
	}
	above, time := api.Dot{}, 1
	if index > 0 {
		above = seen[index-1].Dot
	}
	for _, n := range s {
		time = max(time, n.Time+1)
	}
	var out api.State
	for _, r := range l {
		if !inText(r) {
			return nil, api.ErrRune
		}
		out = append(out, api.Node{Dot: d, Parent: above, Time: time, Rune: r})
		above, d.Counter, time = d, d.Counter+1, time+1
	}
	for _, n := range out {
		if n.Dot.Counter > 4294967295 || n.Time > 4611686018427387904 {
			return nil, api.ErrExhausted
		}
	}
	for _, n := range slices.Concat(out, s) {
		if has(s, n.Dot) && has(out, n.Dot) {
			return nil, api.ErrBusy
		}
	}
	return out, api.OK
}

// has reports whether a state has a node with a dot.
func has(s api.State, d api.Dot) bool {
	return slices.ContainsFunc(s, func(n api.Node) bool { return n.Dot == d })
}

// expectedDelete returns what Delete has to return: it asks of each node whether it is one of those that go.
func expectedDelete(s api.State, index, n int) (api.State, api.Errno) {
	if shape.First(s).Index >= 0 {
		return nil, api.ErrArg
	}
	seen := visible(s)
	if index < 0 || n < 0 || index > len(seen) || n > len(seen)-index {
		return nil, api.ErrRange
	}
	if n > 10000 {
		return nil, api.ErrLong
	}
	var out api.State
	for _, x := range s {
		if i := slices.Index(seen, x); i >= index && i-index < n {
			x.Rune = 0
			out = append(out, x)
		}
	}
	return out, api.OK
}

// expectedReplace returns what Replace has to return. Of the errors of its two parts that comes which is first in the chapter's list.
func expectedReplace(s api.State, d api.Dot, index, n int, l []rune) (api.State, api.Errno) {
	gone, e := expectedDelete(s, index, n)
	come, f := expectedInsert(s, d, index, l)
	for _, first := range []api.Errno{api.ErrArg, api.ErrRange, api.ErrLong, api.ErrRune, api.ErrExhausted, api.ErrBusy} {
		if e == first || f == first {
			return nil, first
		}
	}
	return gathered(gone, come), api.OK
}

// gathered returns the join of two states that agree, as chapter 14 defines it.
func gathered(a, b api.State) api.State {
	nodes := map[api.Dot]api.Node{}
	for _, n := range slices.Concat(a, b) {
		if was, is := nodes[n.Dot]; !is || was.Rune != 0 {
			nodes[n.Dot] = n
		}
	}
	return slices.SortedFunc(maps.Values(nodes), func(x, y api.Node) int { return dot.Compare(x.Dot, y.Dot) })
}

// expectedApply returns what Apply has to return: the runes as a string.
func expectedApply(s, delta api.State) (api.State, string, api.Errno) {
	if !store.Valid(s) || !store.Valid(delta) {
		return nil, "", api.ErrArg
	}
	for _, x := range s {
		for _, y := range delta {
			if same := x.Parent == y.Parent && x.Time == y.Time && (x.Rune == y.Rune || x.Rune == 0 || y.Rune == 0); x.Dot == y.Dot && !same {
				return nil, "", api.ErrClash
			}
		}
	}
	both := gathered(s, delta)
	return both, textOf(both), api.OK
}

// letter returns a rune that has one to four bytes.
func letter(i int) rune { return []rune{0x61, 0xe9, 0x20ac, 0x1f600}[i%4] }

// small returns all stores, well-formed or not, that have some of the dots 1.1, 2.1 and 1.2, each below the root or another one, at the times 1 to 3, alive or dead.
func small() []api.State {
	places := []api.Dot{at(1, 1), at(2, 1), at(1, 2)}
	all := []api.State{nil}
	for i, d := range places {
		for _, s := range slices.Clone(all) {
			for _, parent := range append([]api.Dot{{}}, places...) {
				for which := range 6 {
					if parent != d {
						n := api.Node{Dot: d, Parent: parent, Time: 1 + which/2, Rune: letter(i) * rune(which%2)}
						all = append(all, append(slices.Clone(s), n))
					}
				}
			}
		}
	}
	return all
}

// typed returns a state as it comes from typing and deleting at indices that follow a rule, and its visible nodes.
func typed(steps, rule int) (api.State, []api.Node) {
	var s api.State
	var seen []api.Node
	for step := range steps {
		i := (step*step*(rule+1) + step/3) % (len(seen) + 1)
		if i < len(seen) && (step+rule)%(3+rule%2) == 0 {
			s[slices.Index(s, seen[i])].Rune = 0
			seen = slices.Delete(seen, i, i+1)
			continue
		}
		n := api.Node{Dot: at(1+step*rule%64, step+1), Time: step + 1, Rune: letter(step)}
		if i > 0 {
			n.Parent = seen[i-1].Dot
		}
		s, seen = append(s, n), slices.Insert(seen, i, n)
	}
	return s, seen
}

// line returns a state of some nodes, one below the other, made by the replica 1 at once.
func line(size int) api.State {
	var s api.State
	for i := range size {
		n := api.Node{Dot: at(1, i+1), Time: i + 1, Rune: letter(i)}
		if i > 0 {
			n.Parent = at(1, i)
		}
		s = append(s, n)
	}
	return s
}

// states returns well-formed states of all kinds: no nodes, one, only dead ones, dead ones before, between and behind the others, brothers, dots and times at their limits, and typed texts.
func states() []api.State {
	all := []api.State{nil, {}}
	for _, s := range []string{
		chapter, "1.1 root 1 U+0061", "1.1 root 1 -", "64.4294967295 root 4611686018427387904 U+10FFFF", "64.4294967295 root 4611686018427387904 -", "3.4294967290 root 4611686018427387900 U+0001",
		"1.1 root 1 -, 1.2 1.1 2 -, 2.2 root 3 -", "1.1 root 1 -, 1.2 1.1 2 U+0062, 1.3 1.2 3 -, 1.4 1.3 4 U+0064, 1.5 1.4 5 -", "1.1 root 3 -, 2.1 root 2 U+0062, 3.1 root 1 -", "1.1 root 2 U+0061, 2.1 root 2 U+0062, 3.1 root 2 U+0063, 1.2 2.1 3 -, 2.2 2.1 3 U+0064, 3.2 2.2 4 U+0065",
		// What is further below has the smaller dots.
		"1.1 2.2 7 U+0061, 2.1 1.1 8 -, 2.2 3.3 5 U+0062, 3.3 root 1 -",
	} {
		all = append(all, of(s))
	}
	for rule := range 8 {
		s, _ := typed(9+rule*3, rule)
		all = append(all, s)
	}
	return all
}

// noDots returns dots that are not valid.
func noDots() []api.Dot {
	return []api.Dot{{}, at(0, 1), at(1, 0), at(65, 1), at(-1, 1), at(1, -1), at(64, 1<<32), at(1<<32+1, 1), at(math.MaxInt, math.MaxInt), at(math.MinInt, math.MinInt), at(1, math.MaxInt), at(1, math.MinInt)}
}

// noRunes returns runes that may not be in a text.
func noRunes() []rune {
	return []rune{0, -1, math.MinInt32, 0xd800, 0xdbff, 0xdc00, 0xdfff, 0x110000, math.MaxInt32}
}

// noNodes returns nodes that are not valid, each of them in one part, with the dot of a node where it is allowed.
func noNodes(n api.Node) []api.Node {
	var all []api.Node
	add := func(change func(n *api.Node)) {
		bad := n
		change(&bad)
		all = append(all, bad)
	}
	for _, d := range noDots() {
		add(func(n *api.Node) { n.Dot = d })
		if d != (api.Dot{}) {
			add(func(n *api.Node) { n.Parent = d })
		}
	}
	for _, time := range []int{0, -1, math.MinInt, 1<<62 + 1, math.MaxInt} {
		add(func(n *api.Node) { n.Time = time })
	}
	for _, r := range noRunes()[1:] {
		add(func(n *api.Node) { n.Rune = r })
	}
	add(func(n *api.Node) { n.Parent = n.Dot })
	return all
}

// noStores returns states that are no store: at each place a node that is not valid, one that stands there twice, or two in the wrong order.
func noStores() []api.State {
	good, _ := typed(6, 2)
	all := []api.State{of("1.2 root 1 U+0061, 1.1 root 1 U+0062"), of("1.1 root 1 U+0061, 1.1 root 1 -"), of("2.1 root 1 -, 1.1 root 1 -")}
	for i, x := range good {
		for _, n := range noNodes(x) {
			bad := slices.Clone(good)
			bad[i] = n
			all = append(all, bad, api.State{n})
		}
		all = append(all, slices.Insert(slices.Clone(good), i, x))
		if i > 0 {
			bad := slices.Clone(good)
			bad[i-1], bad[i] = bad[i], bad[i-1]
			all = append(all, bad)
		}
	}
	return all
}

// notWell returns stores that are not well-formed: at each place a node with a lacking parent, or with one that is not older; and circles.
func notWell() []api.State {
	good := line(6)
	all := []api.State{of("1.1 9.9 5 U+0061"), of("1.1 9.9 5 -"), of("1.1 root 5 U+0061, 1.2 1.1 5 U+0062"), of("1.1 root 5 -, 1.2 1.1 4 -"), of("1.1 1.2 1 U+0061, 1.2 1.1 2 U+0062"), of("1.1 1.2 3 U+0061, 1.2 1.1 2 U+0062, 1.3 root 1 U+0063")}
	for i := range good {
		for _, time := range []int{good[i].Time - 1, good[i].Time - 2} {
			bad := slices.Clone(good)
			if bad[i].Time = time; i > 0 && time > 0 {
				all = append(all, bad)
			}
		}
		bad := slices.Clone(good)
		bad[i].Parent = dotOf("64.4294967295")
		all = append(all, bad)
		if i < len(good)-1 {
			all = append(all, slices.Delete(slices.Clone(good), i, i+1))
		}
	}
	return all
}

// numbers returns indices, and numbers of runes, for a state: from below zero to beyond all of its nodes, and the least and the greatest ones.
func numbers(s api.State) []int {
	all := []int{math.MinInt, math.MinInt + 1, -1 << 32, 1 << 32, math.MaxInt - 1, math.MaxInt}
	for i := -2; i <= len(s)+2; i++ {
		all = append(all, i)
	}
	return all
}
