package decode_test

import (
	"math"
	"slices"

	"redpencil/api"
)

// edges returns the numbers from 1 to a greatest one that stand on both sides of each length of a number's bytes, and the greatest one.
func edges(most int) []int {
	l := []int{1, 2}
	for n := 128; n > 0 && n <= most; n *= 128 {
		l = append(l, n-1, n, n+1)
	}
	l = append(l, most-1, most)
	slices.Sort(l)
	l = slices.DeleteFunc(l, func(n int) bool { return n < 1 || n > most })
	return slices.Compact(l)
}

// letter returns a rune that has one to four bytes.
func letter(i int) rune { return []rune{0x61, 0xe9, 0x20ac, 0x1f600}[i%4] }

// whole returns a state as it comes from many replicas, each node below an earlier one, with all nodes alive.
func whole(size, replicas int) api.State {
	var s api.State
	for i := range size {
		n := api.Node{Dot: at(1+i%replicas, 1+i/replicas), Time: 1 + i, Rune: letter(i)}
		if i > 0 {
			n.Parent = s[i*i/2%i].Dot
		}
		s = append(s, n)
	}
	return s
}

// part returns some nodes of a state, some of which are dead, both as a rule says.
func part(s api.State, rule int) api.State {
	var out api.State
	for i, n := range s {
		if (i*i+rule*i/3)%(2+rule%4) == 0 {
			continue
		}
		if (i*rule+i/2)%(2+rule%5) == 1 {
			n.Rune = 0
		}
		out = append(out, n)
	}
	return out
}

// killed returns a state all nodes of which are dead.
func killed(s api.State) api.State {
	out := slices.Clone(s)
	for i := range out {
		out[i].Rune = 0
	}
	return out
}

// small returns all states with at most some nodes that have few dots, parents, times and runes.
func small(most int) []api.State {
	all := []api.State{nil}
	for _, d := range dots("1.1 2.1 1.2") {
		for _, s := range slices.Clone(all) {
			if len(s) == most {
				continue
			}
			for _, parent := range dots("0.0 1.1 1.2 2.2") {
				for _, time := range []int{1, 64} {
					for _, r := range []rune{0, 1, 2, 0xe9} {
						n := api.Node{Dot: d, Parent: parent, Time: time, Rune: r}
						if isNode(n) {
							all = append(all, append(slices.Clone(s), n))
						}
					}
				}
			}
		}
	}
	return all
}

// limits returns states of one node or two whose numbers stand at the limits of each length, and whose runes at those of each length in UTF-8.
func limits() []api.State {
	var all []api.State
	counters := edges(4294967295)
	for i, counter := range counters {
		for _, replica := range []int{1, 64} {
			n := api.Node{Dot: at(replica, counter), Parent: at(65-replica, counter), Time: 1 + i, Rune: letter(i)}
			all = append(all, api.State{n})
			for k, later := range counters {
				next := api.Node{Dot: at(64, later), Parent: at(1+k%63, counter), Time: 5, Rune: letter(i + k)}
				if isState(api.State{n, next}) {
					all = append(all, api.State{n, next}, killed(api.State{n, next}))
				}
			}
		}
	}
	for _, twice := range edges(9223372036854775806) {
		for _, time := range []int{max(1, twice/2), twice/2 + 1} {
			all = append(all, api.State{{Dot: at(3, 1), Time: time, Rune: 'x'}}, api.State{{Dot: at(3, 1), Time: time}})
		}
	}
	for _, r := range []rune{0x1, 0x7f, 0x80, 0x7ff, 0x800, 0xd7ff, 0xe000, 0xfffd, 0xffff, 0x10000, 0x3ffff, 0x40000, 0x10ffff} {
		n := api.Node{Dot: at(5, 6), Time: 7, Rune: r}
		next := api.Node{Dot: at(6, 6), Parent: n.Dot, Time: 8, Rune: 0x110000 - r}
		all = append(all, api.State{n}, api.State{n, {Dot: next.Dot, Time: 9}})
		if isNode(next) {
			all = append(all, api.State{n, next})
		}
	}
	return all
}

// long returns states whose number of nodes, and whose number of the bytes of their runes, stand on both sides of each length of a number's bytes.
func long() []api.State {
	var all []api.State
	for _, size := range []int{126, 127, 128, 129, 16382, 16383, 16384, 16385} {
		s := whole(size, 1+size%64)
		all = append(all, s, killed(s), part(s, size))
		for i := range s {
			s[i].Rune = 'a'
		}
		wider := slices.Clone(s)
		wider[size/2].Rune = 0xe9
		all = append(all, s, wider)
	}
	return all
}

// states returns states of all kinds.
func states() []api.State {
	all := []api.State{{}, of("1.1 1.2 1 U+0061, 1.2 1.1 1 U+0062"), of("64.4294967294 1.4294967295 4611686018427387904 -, 1.4294967295 64.4294967295 4611686018427387904 U+10FFFF, 64.4294967295 64.4294967294 1 U+0001")}
	for i, s := range small(3) {
		if i%31 == 0 {
			all = append(all, s)
		}
	}
	for _, size := range []int{9, 40, 150} {
		s := whole(size, 1+size%63)
		all = append(all, s, killed(s), slices.Clone(s[:size/2]), slices.Clone(s[size/2:]))
		for rule := range 12 {
			all = append(all, part(s, rule))
		}
	}
	return append(all, limits()...)
}

// noDots returns dots that are not valid.
func noDots() []api.Dot {
	return []api.Dot{{}, at(0, 1), at(1, 0), at(65, 1), at(-1, 1), at(1, -1), at(64, 1<<32), at(1<<32+1, 1), at(math.MaxInt, math.MaxInt), at(math.MinInt, math.MinInt), at(1, math.MaxInt), at(1, math.MinInt)}
}

// cloudOf returns a cloud with a number of dots, between any two of which of one replica there is a gap.
func cloudOf(size int) []api.Dot {
	var l []api.Dot
	for i := range size {
		l = append(l, at(1+i%64, 2+2*(i/64)))
	}
	return l
}

// everything returns the context with all dots that there are.
func everything() api.Context {
	var c api.Context
	for replica := 1; replica <= 64; replica++ {
		c.Vector = append(c.Vector, at(replica, 4294967295))
	}
	return c
}

// fewDots returns all valid and compact contexts in which there are some of five dots and some of four others.
func fewDots() []api.Context {
	var all []api.Context
	sets := func(from []api.Dot) [][]api.Dot {
		l := [][]api.Dot{nil}
		for _, d := range from {
			for _, k := range slices.Clone(l) {
				l = append(l, append(slices.Clone(k), d))
			}
		}
		return l
	}
	for _, v := range sets(dots("1.1 1.2 2.1 3.1 64.1")) {
		for _, cloud := range sets(dots("2.2 1.3 1.4 2.4")) {
			c := api.Context{Vector: v, Cloud: cloud}
			if isCompact(c) {
				all = append(all, c)
			}
		}
	}
	return all
}

// contexts returns contexts of all kinds that are valid and compact.
func contexts() []api.Context {
	all := append(fewDots(), api.Context{Vector: api.Vector{}, Cloud: []api.Dot{}}, everything(), api.Context{Vector: everything().Vector[:63], Cloud: dots("64.2 64.4294967295")}, api.Context{Cloud: everything().Vector})
	counters := edges(4294967295)
	for i, counter := range counters {
		all = append(all, api.Context{Vector: api.Vector{at(64, counter)}})
		for _, later := range counters[i:] {
			all = append(all, api.Context{Vector: api.Vector{at(1, later), at(64, counter)}})
			if c := (api.Context{Vector: api.Vector{at(1, counter)}, Cloud: []api.Dot{at(1, later), at(2, later)}}); isCompact(c) {
				all = append(all, c)
			}
			if c := (api.Context{Cloud: []api.Dot{at(64, counter), at(64, later)}}); isCompact(c) {
				all = append(all, c)
			}
		}
	}
	for _, size := range []int{127, 128, 129, 16383, 16384, 16385} {
		all = append(all, api.Context{Cloud: cloudOf(size)}, api.Context{Vector: dots("64.1"), Cloud: append(cloudOf(size + 63)[64:], at(63, 4294967295))})
	}
	return slices.DeleteFunc(all, func(c api.Context) bool { return !isCompact(c) })
}

// noContexts returns contexts that are not valid, or valid, but not compact.
func noContexts() []api.Context {
	var all []api.Context
	for _, s := range []string{
		// The vector: a replica twice, or out of order.
		"2.1 1.1 / -", "1.1 1.1 / -", "1.1 1.2 / -", "1.1 3.1 2.1 / -", "1.1 3.1 3.1 / -",
		// The cloud: a dot twice, or out of order.
		"- / 1.3 1.3", "- / 1.3 1.2", "- / 2.2 1.2", "1.1 / 1.3 2.3 1.3", "1.1 / 1.3 1.5 1.5",
		// What is in the vector, or directly behind it.
		"- / 1.1", "1.1 / 1.1", "1.1 / 1.2", "1.3 / 1.2", "1.1 / 2.1", "1.1 2.2 / 2.3", "1.1 / 1.3 2.1", "1.1 / 1.2 1.3", "1.4294967295 / 1.4294967295", "1.4294967294 / 1.4294967295",
	} {
		all = append(all, ctx(s))
	}
	for _, d := range noDots() {
		all = append(all, api.Context{Vector: api.Vector{d}}, api.Context{Cloud: []api.Dot{d}}, api.Context{Vector: api.Vector{at(1, 1), d}}, api.Context{Vector: api.Vector{d, at(64, 1)}}, api.Context{Vector: api.Vector{at(1, 1)}, Cloud: []api.Dot{at(1, 3), d}}, api.Context{Cloud: []api.Dot{d, at(64, 4294967295)}})
	}
	return all
}
