package canon_test

import (
	"fmt"
	"math"
	"slices"
	"strconv"
	"strings"

	"redpencil/api"
)

// at returns a dot, which need not be valid.
func at(replica, counter int) api.Dot { return api.Dot{Replica: replica, Counter: counter} }

// dots returns the dots that a text names, in its order, whether they are valid or not; "-" stands for none.
func dots(s string) []api.Dot {
	var l []api.Dot
	for _, part := range strings.Fields(s) {
		var d api.Dot
		if part == "-" {
			continue
		}
		if n, err := fmt.Sscanf(part, "%d.%d", &d.Replica, &d.Counter); n != 2 || err != nil {
			panic("no dot: " + part)
		}
		l = append(l, d)
	}
	return l
}

// ctx returns the context that is written as the chapter writes it: the vector, a bar, and the dots of the cloud.
func ctx(s string) api.Context {
	v, cloud, found := strings.Cut(s, " / ")
	if !found {
		panic("no context: " + s)
	}
	return api.Context{Vector: dots(v), Cloud: dots(cloud)}
}

// of returns the state with the nodes that a text names, with commas in between; they need not be valid.
func of(s string) api.State {
	var out api.State
	for part := range strings.SplitSeq(s, ",") {
		f := strings.Fields(part)
		if len(f) == 0 {
			continue
		}
		n := api.Node{Dot: dots(f[0])[0]}
		if f[1] != "root" {
			n.Parent = dots(f[1])[0]
		}
		fmt.Sscanf(f[2], "%d", &n.Time)
		fmt.Sscanf(f[3], "U+%X", &n.Rune)
		out = append(out, n)
	}
	return out
}

// raw returns the bytes that a text names.
func raw(s string) []byte {
	var b []byte
	for _, part := range strings.Fields(s) {
		n, err := strconv.ParseUint(part, 10, 8)
		if err != nil {
			panic("no byte: " + part)
		}
		b = append(b, byte(n))
	}
	return b
}

// isDot says which dots are valid, as chapter 4 defines it.
func isDot(d api.Dot) bool {
	return d.Replica > 0 && d.Replica < 65 && d.Counter > 0 && d.Counter < 4294967296
}

// isBefore says which of two dots stands first in a set, as chapter 4 defines it.
func isBefore(a, b api.Dot) bool {
	return a.Counter < b.Counter || a.Counter == b.Counter && a.Replica < b.Replica
}

// isNode says which nodes are valid, as chapter 9 defines it.
func isNode(n api.Node) bool {
	rune := n.Rune == 0 || 0 < n.Rune && n.Rune < 0xd800 || 0xdfff < n.Rune && n.Rune < 0x110000
	return isDot(n.Dot) && (n.Parent == api.Dot{} || isDot(n.Parent)) && n.Parent != n.Dot && 0 < n.Time && n.Time <= 4611686018427387904 && rune
}

// isState says which states are stores, as chapter 10 defines it.
func isState(s api.State) bool {
	for i, n := range s {
		if !isNode(n) || i > 0 && !isBefore(s[i-1].Dot, n.Dot) {
			return false
		}
	}
	return true
}

// isCompact says which contexts are valid and compact, as chapter 6 defines it.
func isCompact(c api.Context) bool {
	last := map[int]int{}
	for i, d := range c.Vector {
		if !isDot(d) || i > 0 && d.Replica <= c.Vector[i-1].Replica {
			return false
		}
		last[d.Replica] = d.Counter
	}
	for i, d := range c.Cloud {
		if !isDot(d) || i > 0 && !isBefore(c.Cloud[i-1], d) || d.Counter <= last[d.Replica]+1 {
			return false
		}
	}
	return true
}

// number returns the bytes of a number, as chapter 1 defines them: from the last group on, each group before it with another one behind it.
func number(n uint64) []byte {
	if n < 128 {
		return []byte{byte(n)}
	}
	return append([]byte{byte(n%128 + 128)}, number(n/128)...)
}

// numbers returns the bytes of some numbers, one after the other.
func numbers(l ...int) []byte {
	var b []byte
	for _, n := range l {
		b = append(b, number(uint64(n))...)
	}
	return b
}

// utf8Of returns the bytes of a rune, as chapter 2 defines them.
func utf8Of(r rune) []byte {
	rest := func(n rune) byte { return byte(0x80 + n%0x40) }
	switch {
	case r < 0x80:
		return []byte{byte(r)}
	case r < 0x800:
		return []byte{byte(0xc0 + r/0x40), rest(r)}
	case r < 0x10000:
		return []byte{byte(0xe0 + r/0x1000), rest(r / 0x40), rest(r)}
	}
	return []byte{byte(0xf0 + r/0x40000), rest(r / 0x1000), rest(r / 0x40), rest(r)}
}

// expectedBytes returns what Encode has to return.
func expectedBytes(s api.State) ([]byte, api.Errno) {
	if !isState(s) {
		return nil, api.ErrArg
	}
	if len(s) > 65536 {
		return nil, api.ErrLong
	}
	b := numbers(len(s))
	var text []byte
	for i, n := range s {
		counter := n.Dot.Counter
		if i > 0 {
			counter -= s[i-1].Dot.Counter
		}
		b = append(b, numbers(n.Dot.Replica, counter, n.Parent.Replica)...)
		if n.Parent.Replica != 0 {
			b = append(b, numbers(n.Parent.Counter)...)
		}
		if n.Rune == 0 {
			b = append(b, number(uint64(n.Time)+uint64(n.Time)+1)...)
			continue
		}
		b = append(b, number(uint64(n.Time)+uint64(n.Time))...)
		text = append(text, utf8Of(n.Rune)...)
	}
	return slices.Concat(b, numbers(len(text)), text), api.OK
}

// expectedContext returns what Context has to return.
func expectedContext(c api.Context) ([]byte, api.Errno) {
	if !isCompact(c) {
		return nil, api.ErrArg
	}
	if len(c.Vector) > 65536 || len(c.Cloud) > 65536 {
		return nil, api.ErrLong
	}
	var b []byte
	for _, l := range [][]api.Dot{c.Vector, c.Cloud} {
		b = append(b, numbers(len(l))...)
		for _, d := range l {
			b = append(b, numbers(d.Replica, d.Counter)...)
		}
	}
	return b, api.OK
}

// edges returns the numbers from 1 to a greatest one that stand on both sides of each length of a number's bytes, and the greatest one.
func edges(most int) []int {
	l := []int{1, 2}
	for n := 128; n > 0 && n <= most; n *= 128 {
		l = append(l, n-1, n, n+1)
	}
	l = append(l, most-1, most)
	slices.Sort(l)
	l = slices.DeleteFunc(l, func(n int) bool { return n < 1 || n > most })
	return slices.Compact(l)
}

// letter returns a rune that has one to four bytes.
func letter(i int) rune { return []rune{0x61, 0xe9, 0x20ac, 0x1f600}[i%4] }

// whole returns a state as it comes from many replicas, each node below an earlier one, with all nodes alive.
func whole(size, replicas int) api.State {
	var s api.State
	for i := range size {
		n := api.Node{Dot: at(1+i%replicas, 1+i/replicas), Time: 1 + i, Rune: letter(i)}
		if i > 0 {
			n.Parent = s[i*i/2%i].Dot
		}
		s = append(s, n)
	}
	return s
}

// part returns some nodes of a state, some of which are dead, both as a rule says.
func part(s api.State, rule int) api.State {
	var out api.State
	for i, n := range s {
		if (i*i+rule*i/3)%(2+rule%4) == 0 {
			continue
		}
		if (i*rule+i/2)%(2+rule%5) == 1 {
			n.Rune = 0
		}
		out = append(out, n)
	}
	return out
}

// killed returns a state all nodes of which are dead.
func killed(s api.State) api.State {
	out := slices.Clone(s)
	for i := range out {
		out[i].Rune = 0
	}
	return out
}

// small returns all states with at most some nodes that have few dots, parents, times and runes.
func small(most int) []api.State {
	all := []api.State{nil}
	for _, d := range dots("1.1 2.1 1.2") {
		for _, s := range slices.Clone(all) {
			if len(s) == most {
				continue
			}
			for _, parent := range dots("0.0 1.1 1.2 2.2") {
				for _, time := range []int{1, 64} {
					for _, r := range []rune{0, 1, 2, 0xe9} {
						n := api.Node{Dot: d, Parent: parent, Time: time, Rune: r}
						if isNode(n) {
							all = append(all, append(slices.Clone(s), n))
						}
					}
				}
			}
		}
	}
	return all
}

// limits returns states of one node or two whose numbers stand at the limits of each length, and whose runes at those of each length in UTF-8.
func limits() []api.State {
	var all []api.State
	counters := edges(4294967295)
	for i, counter := range counters {
		for _, replica := range []int{1, 64} {
			n := api.Node{Dot: at(replica, counter), Parent: at(65-replica, counter), Time: 1 + i, Rune: letter(i)}
			all = append(all, api.State{n})
			for k, later := range counters {
				next := api.Node{Dot: at(64, later), Parent: at(1+k%63, counter), Time: 5, Rune: letter(i + k)}
				if isState(api.State{n, next}) {
					all = append(all, api.State{n, next}, killed(api.State{n, next}))
				}
			}
		}
	}
	for _, twice := range edges(9223372036854775806) {
		for _, time := range []int{max(1, twice/2), twice/2 + 1} {
			all = append(all, api.State{{Dot: at(3, 1), Time: time, Rune: 'x'}}, api.State{{Dot: at(3, 1), Time: time}})
		}
	}
	for _, r := range []rune{0x1, 0x7f, 0x80, 0x7ff, 0x800, 0xd7ff, 0xe000, 0xfffd, 0xffff, 0x10000, 0x3ffff, 0x40000, 0x10ffff} {
		n := api.Node{Dot: at(5, 6), Time: 7, Rune: r}
		next := api.Node{Dot: at(6, 6), Parent: n.Dot, Time: 8, Rune: 0x110000 - r}
		all = append(all, api.State{n}, api.State{n, {Dot: next.Dot, Time: 9}})
		if isNode(next) {
			all = append(all, api.State{n, next})
		}
	}
	return all
}

// long returns states whose number of nodes, and whose number of the bytes of their runes, stand on both sides of each length of a number's bytes.
func long() []api.State {
	var all []api.State
	for _, size := range []int{126, 127, 128, 129, 16382, 16383, 16384, 16385} {
		s := whole(size, 1+size%64)
		all = append(all, s, killed(s), part(s, size))
		for i := range s {
			s[i].Rune = 'a'
		}
		wider := slices.Clone(s)
		wider[size/2].Rune = 0xe9
		all = append(all, s, wider)
	}
	return all
}

// states returns states of all kinds.
func states() []api.State {
	all := []api.State{{}, of("1.1 1.2 1 U+0061, 1.2 1.1 1 U+0062"), of("64.4294967294 1.4294967295 4611686018427387904 -, 1.4294967295 64.4294967295 4611686018427387904 U+10FFFF, 64.4294967295 64.4294967294 1 U+0001")}
	for i, s := range small(3) {
		if i%31 == 0 {
			all = append(all, s)
		}
	}
	for _, size := range []int{9, 40, 150} {
		s := whole(size, 1+size%63)
		all = append(all, s, killed(s), slices.Clone(s[:size/2]), slices.Clone(s[size/2:]))
		for rule := range 12 {
			all = append(all, part(s, rule))
		}
	}
	return append(all, limits()...)
}

// noDots returns dots that are not valid.
func noDots() []api.Dot {
	return []api.Dot{{}, at(0, 1), at(1, 0), at(65, 1), at(-1, 1), at(1, -1), at(64, 1<<32), at(1<<32+1, 1), at(math.MaxInt, math.MaxInt), at(math.MinInt, math.MinInt), at(1, math.MaxInt), at(1, math.MinInt)}
}

// noNodes returns nodes that are not valid, each of them in one part.
func noNodes(n api.Node) []api.Node {
	var all []api.Node
	add := func(change func(n *api.Node)) {
		bad := n
		change(&bad)
		all = append(all, bad)
	}
	for _, d := range noDots() {
		add(func(n *api.Node) { n.Dot = d })
		if d != (api.Dot{}) {
			add(func(n *api.Node) { n.Parent = d })
		}
	}
	for _, time := range []int{0, -1, math.MinInt, 1<<62 + 1, math.MaxInt} {
		add(func(n *api.Node) { n.Time = time })
	}
	for _, r := range []rune{-1, math.MinInt32, 0xd800, 0xdbff, 0xdc00, 0xdfff, 0x110000, math.MaxInt32} {
		add(func(n *api.Node) { n.Rune = r })
	}
	add(func(n *api.Node) { n.Parent = n.Dot })
	return all
}

// noStates returns states that are no store: at each place a node that is not valid, one that stands there twice, or two in the wrong order.
func noStates() []api.State {
	good := part(whole(9, 2), 5)
	all := []api.State{of("1.2 root 1 U+0061, 1.1 root 1 U+0062"), of("1.1 root 1 U+0061, 1.1 root 1 -"), of("2.1 root 1 -, 1.1 root 1 -")}
	for i, x := range good {
		for _, n := range noNodes(x) {
			bad := slices.Clone(good)
			bad[i] = n
			all = append(all, bad, api.State{n})
		}
		all = append(all, slices.Insert(slices.Clone(good), i, x))
		if i > 0 {
			bad := slices.Clone(good)
			bad[i-1], bad[i] = bad[i], bad[i-1]
			all = append(all, bad)
		}
	}
	return all
}

// cloudOf returns a cloud with a number of dots, between any two of which of one replica there is a gap.
func cloudOf(size int) []api.Dot {
	var l []api.Dot
	for i := range size {
		l = append(l, at(1+i%64, 2+2*(i/64)))
	}
	return l
}

// everything returns the context with all dots that there are.
func everything() api.Context {
	var c api.Context
	for replica := 1; replica <= 64; replica++ {
		c.Vector = append(c.Vector, at(replica, 4294967295))
	}
	return c
}

// fewDots returns all valid and compact contexts in which there are some of five dots and some of four others.
func fewDots() []api.Context {
	var all []api.Context
	sets := func(from []api.Dot) [][]api.Dot {
		l := [][]api.Dot{nil}
		for _, d := range from {
			for _, k := range slices.Clone(l) {
				l = append(l, append(slices.Clone(k), d))
			}
		}
		return l
	}
	for _, v := range sets(dots("1.1 1.2 2.1 3.1 64.1")) {
		for _, cloud := range sets(dots("2.2 1.3 1.4 2.4")) {
			c := api.Context{Vector: v, Cloud: cloud}
			if isCompact(c) {
				all = append(all, c)
			}
		}
	}
	return all
}

// contexts returns contexts of all kinds that are valid and compact.
func contexts() []api.Context {
	all := append(fewDots(), api.Context{Vector: api.Vector{}, Cloud: []api.Dot{}}, everything(), api.Context{Vector: everything().Vector[:63], Cloud: dots("64.2 64.4294967295")}, api.Context{Cloud: everything().Vector})
	counters := edges(4294967295)
	for i, counter := range counters {
		all = append(all, api.Context{Vector: api.Vector{at(64, counter)}})
		for _, later := range counters[i:] {
			all = append(all, api.Context{Vector: api.Vector{at(1, later), at(64, counter)}})
			if c := (api.Context{Vector: api.Vector{at(1, counter)}, Cloud: []api.Dot{at(1, later), at(2, later)}}); isCompact(c) {
				all = append(all, c)
			}
			if c := (api.Context{Cloud: []api.Dot{at(64, counter), at(64, later)}}); isCompact(c) {
				all = append(all, c)
			}
		}
	}
	for _, size := range []int{127, 128, 129, 16383, 16384, 16385} {
		all = append(all, api.Context{Cloud: cloudOf(size)}, api.Context{Vector: dots("64.1"), Cloud: append(cloudOf(size + 63)[64:], at(63, 4294967295))})
	}
	return slices.DeleteFunc(all, func(c api.Context) bool { return !isCompact(c) })
}

// noContexts returns contexts that are not valid, or valid, but not compact.
func noContexts() []api.Context {
	var all []api.Context
	for _, s := range []string{
		// The vector: a replica twice, or out of order.
		"2.1 1.1 / -", "1.1 1.1 / -", "1.1 1.2 / -", "1.1 3.1 2.1 / -", "1.1 3.1 3.1 / -",
		// The cloud: a dot twice, or out of order.
		"- / 1.3 1.3", "- / 1.3 1.2", "- / 2.2 1.2", "1.1 / 1.3 2.3 1.3", "1.1 / 1.3 1.5 1.5",
		// What is in the vector, or directly behind it.
		"- / 1.1", "1.1 / 1.1", "1.1 / 1.2", "1.3 / 1.2", "1.1 / 2.1", "1.1 2.2 / 2.3", "1.1 / 1.3 2.1", "1.1 / 1.2 1.3", "1.4294967295 / 1.4294967295", "1.4294967294 / 1.4294967295",
	} {
		all = append(all, ctx(s))
	}
	for _, d := range noDots() {
		all = append(all, api.Context{Vector: api.Vector{d}}, api.Context{Cloud: []api.Dot{d}}, api.Context{Vector: api.Vector{at(1, 1), d}}, api.Context{Vector: api.Vector{d, at(64, 1)}}, api.Context{Vector: api.Vector{at(1, 1)}, Cloud: []api.Dot{at(1, 3), d}}, api.Context{Cloud: []api.Dot{d, at(64, 4294967295)}})
	}
	return all
}
