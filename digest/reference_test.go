package digest_test

import (
	"fmt"
	"math"
	"slices"
	"strings"

	"redpencil/api"
)

// chapter is the state of the chapter's examples, chapterOf its digest.
const (
	chapter   = "1.1 root 1 U+0061, 2.1 1.1 2 -, 1.3 1.1 3 U+0063"
	chapterOf = "1.1 2.1 / 1.3 and 2.1 / -"
)

// at returns a dot, which need not be valid.
func at(replica, counter int) api.Dot { return api.Dot{Replica: replica, Counter: counter} }

// dots returns the dots that a text names, in its order, whether they are valid or not; "-" stands for none.
func dots(s string) []api.Dot {
	var l []api.Dot
	for _, part := range strings.Fields(s) {
		var d api.Dot
		if part == "-" {
			continue
		}
		if n, err := fmt.Sscanf(part, "%d.%d", &d.Replica, &d.Counter); n != 2 || err != nil {
			panic("no dot: " + part)
		}
		l = append(l, d)
	}
	return l
}

// halves returns the two parts of a text around a word.
func halves(s, word string) (string, string) {
	first, second, found := strings.Cut(s, word)
	if !found {
		panic("without" + word + ": " + s)
	}
	return first, second
}

// ctx returns the context that is written as a vector, a bar, and the dots of the cloud.
func ctx(s string) api.Context {
	v, cloud := halves(s, " / ")
	return api.Context{Vector: dots(v), Cloud: dots(cloud)}
}

// dig returns the digest that is written as the chapter writes it.
func dig(s string) api.Digest {
	all, gone := halves(s, " and ")
	return api.Digest{All: ctx(all), Gone: ctx(gone)}
}

// of returns the state with the nodes that a text names, with commas in between; they need not be valid.
func of(s string) api.State {
	var out api.State
	for part := range strings.SplitSeq(s, ",") {
		f := strings.Fields(part)
		if len(f) == 0 {
			continue
		}
		n := api.Node{Dot: dots(f[0])[0]}
		if f[1] != "root" {
			n.Parent = dots(f[1])[0]
		}
		fmt.Sscanf(f[2], "%d", &n.Time)
		fmt.Sscanf(f[3], "U+%X", &n.Rune)
		out = append(out, n)
	}
	return out
}

// isDot says which dots are valid, as chapter 4 defines it.
func isDot(d api.Dot) bool {
	return d.Replica > 0 && d.Replica < 65 && d.Counter > 0 && d.Counter < 4294967296
}

// isBefore says which of two dots stands first in a set, as chapter 4 defines it.
func isBefore(a, b api.Dot) bool {
	return a.Counter < b.Counter || a.Counter == b.Counter && a.Replica < b.Replica
}

// ordered returns some dots in the order of a set.
func ordered(l []api.Dot) []api.Dot {
	return slices.SortedFunc(slices.Values(l), func(a, b api.Dot) int {
		switch {
		case isBefore(a, b):
			return -1
		case isBefore(b, a):
			return 1
		}
		return 0
	})
}

// isNode says which nodes are valid, as chapter 9 defines it.
func isNode(n api.Node) bool {
	rune := n.Rune == 0 || 0 < n.Rune && n.Rune < 0xd800 || 0xdfff < n.Rune && n.Rune < 0x110000
	return isDot(n.Dot) && (n.Parent == api.Dot{} || isDot(n.Parent)) && n.Parent != n.Dot && 0 < n.Time && n.Time <= 4611686018427387904 && rune
}

// isState says which states are stores, as chapter 10 defines it.
func isState(s api.State) bool {
	for i, n := range s {
		if !isNode(n) || i > 0 && !isBefore(s[i-1].Dot, n.Dot) {
			return false
		}
	}
	return true
}

// isCompact says which contexts are valid and compact, as chapter 6 defines it.
func isCompact(c api.Context) bool {
	last := map[int]int{}
	for i, d := range c.Vector {
		if !isDot(d) || i > 0 && d.Replica <= c.Vector[i-1].Replica {
			return false
		}
		last[d.Replica] = d.Counter
	}
	for i, d := range c.Cloud {
		if !isDot(d) || i > 0 && !isBefore(c.Cloud[i-1], d) || d.Counter <= last[d.Replica]+1 {
			return false
		}
	}
	return true
}

// has says which dots are in a context, as chapter 6 defines it.
func has(c api.Context, d api.Dot) bool {
	in := slices.ContainsFunc(c.Vector, func(last api.Dot) bool { return d.Replica == last.Replica && d.Counter <= last.Counter })
	return isDot(d) && (in || slices.Contains(c.Cloud, d))
}

// near returns dots of which a context has each one, or lacks one, if it has, or lacks, any that another one has: those that both name, and those beside these.
func near(contexts ...api.Context) []api.Dot {
	var l []api.Dot
	for _, c := range contexts {
		for _, d := range slices.Concat(c.Vector, c.Cloud) {
			l = append(l, at(d.Replica, 1), at(d.Replica, d.Counter-1), d, at(d.Replica, d.Counter+1))
		}
	}
	return slices.DeleteFunc(l, func(d api.Dot) bool { return !isDot(d) })
}

// isIn says whether all dots of a context are in another one.
func isIn(a, b api.Context) bool {
	return !slices.ContainsFunc(near(a, b), func(d api.Dot) bool { return has(a, d) && !has(b, d) })
}

// isDigest says which digests are valid, as the chapter defines it.
func isDigest(d api.Digest) bool {
	return isCompact(d.All) && isCompact(d.Gone) && isIn(d.Gone, d.All)
}

// isSame says which digests are equal in all parts; whether a part without dots is nil or empty makes no difference.
func isSame(a, b api.Digest) bool {
	return slices.Equal(a.All.Vector, b.All.Vector) && slices.Equal(a.All.Cloud, b.All.Cloud) && slices.Equal(a.Gone.Vector, b.Gone.Vector) && slices.Equal(a.Gone.Cloud, b.Gone.Cloud)
}

// withDots returns the compact context with some dots: of each replica the beginning up to the first gap, and what is behind it.
func withDots(l []api.Dot) api.Context {
	var c api.Context
	for replica := 1; replica <= 64; replica++ {
		counter := 0
		for slices.Contains(l, at(replica, counter+1)) {
			counter++
		}
		if counter > 0 {
			c.Vector = append(c.Vector, at(replica, counter))
		}
	}
	for _, d := range l {
		if !has(c, d) {
			c.Cloud = append(c.Cloud, d)
		}
	}
	c.Cloud = ordered(c.Cloud)
	return c
}

// expectedOf returns what Of has to return.
func expectedOf(s api.State) (api.Digest, api.Errno) {
	if !isState(s) {
		return api.Digest{}, api.ErrArg
	}
	var all, gone []api.Dot
	for _, n := range s {
		all = append(all, n.Dot)
		if n.Rune == 0 {
			gone = append(gone, n.Dot)
		}
	}
	return api.Digest{All: withDots(all), Gone: withDots(gone)}, api.OK
}

// expectedDiff returns what Diff has to return: it takes out of the state what the digest has.
func expectedDiff(s api.State, d api.Digest) (api.State, api.Errno) {
	if !isState(s) || !isDigest(d) {
		return nil, api.ErrArg
	}
	return slices.DeleteFunc(slices.Clone(s), func(n api.Node) bool {
		return has(d.All, n.Dot) && (n.Rune != 0 || has(d.Gone, n.Dot))
	}), api.OK
}

// united returns the union of two compact contexts: of each replica the longer beginning, which goes on as long as one of them has the next dot.
func united(a, b api.Context) api.Context {
	var c api.Context
	for replica := 1; replica <= 64; replica++ {
		d := at(replica, 0)
		for _, begin := range slices.Concat(a.Vector, b.Vector) {
			if begin.Replica == replica {
				d.Counter = max(d.Counter, begin.Counter)
			}
		}
		for next := at(replica, d.Counter+1); has(a, next) || has(b, next); next.Counter++ {
			d = next
		}
		if d.Counter > 0 {
			c.Vector = append(c.Vector, d)
		}
	}
	for _, d := range slices.Concat(a.Cloud, b.Cloud) {
		if !has(c, d) {
			c.Cloud = append(c.Cloud, d)
		}
	}
	c.Cloud = ordered(c.Cloud)
	return c
}

// expectedMerge returns what Merge has to return.
func expectedMerge(a, b api.Digest) (api.Digest, api.Errno) {
	if !isDigest(a) || !isDigest(b) {
		return api.Digest{}, api.ErrArg
	}
	return api.Digest{All: united(a.All, b.All), Gone: united(a.Gone, b.Gone)}, api.OK
}

// expectedWithin returns what Within has to return.
func expectedWithin(a, b api.Digest) (bool, api.Errno) {
	if !isDigest(a) || !isDigest(b) {
		return false, api.ErrArg
	}
	return isIn(a.All, b.All) && isIn(a.Gone, b.Gone), api.OK
}

// letter returns a rune that has one to four bytes.
func letter(i int) rune { return []rune{0x61, 0xe9, 0x20ac, 0x1f600}[i%4] }

// small returns all states, any two of which agree, that have some of five dots, with gaps or without them, each of them alive or dead.
func small() []api.State {
	all := []api.State{nil}
	for i, d := range dots("1.1 2.1 1.2 2.2 1.3") {
		for _, s := range slices.Clone(all) {
			n := api.Node{Dot: d, Parent: at(9, 9), Time: 7 + i, Rune: letter(i)}
			dead := n
			dead.Rune = 0
			all = append(all, append(slices.Clone(s), n), append(slices.Clone(s), dead))
		}
	}
	return all
}

// whole returns a state as it comes from many replicas, each node below an earlier one, with all nodes alive.
func whole(size, replicas int) api.State {
	var s api.State
	for i := range size {
		n := api.Node{Dot: at(1+i%replicas, 1+i/replicas), Time: 1 + i, Rune: letter(i)}
		if i > 0 {
			n.Parent = s[i*i/2%i].Dot
		}
		s = append(s, n)
	}
	return s
}

// part returns some nodes of a state, some of which are dead, both as a rule says: so all that it returns of one state agree.
func part(s api.State, rule int) api.State {
	var out api.State
	for i, n := range s {
		if (i*i+rule*i/3)%(2+rule%4) == 0 {
			continue
		}
		if (i*rule+i/2)%(2+rule%5) == 1 {
			n.Rune = 0
		}
		out = append(out, n)
	}
	return out
}

// killed returns a state all nodes of which are dead.
func killed(s api.State) api.State {
	out := slices.Clone(s)
	for i := range out {
		out[i].Rune = 0
	}
	return out
}

// parts returns states that agree: of a text nothing, the whole, alive and dead, its beginning and its end, and many parts.
func parts(size, replicas int) []api.State {
	s := whole(size, replicas)
	all := []api.State{nil, s, killed(s), slices.Clone(s[:size/2]), slices.Clone(s[size/2:]), killed(s[:size/3]), killed(s[size-1:])}
	for rule := range 12 {
		all = append(all, part(s, rule))
	}
	return all
}

// far returns states that agree, with dots and times at their limits.
func far() []api.State {
	s := of("1.1 64.4294967295 4611686018427387904 U+0001, 64.1 1.1 1 U+D7FF, 1.4294967294 64.1 2 U+E000, 1.4294967295 64.1 2 U+0061, 63.4294967295 root 4611686018427387904 U+10FFFF, 64.4294967295 root 4611686018427387904 U+10FFFF")
	all := []api.State{s, killed(s)}
	for i := range s {
		all = append(all, slices.Clone(s[i:i+1]), killed(s[i:i+1]), slices.Concat(s[:i], killed(s[i:])))
	}
	return all
}

// groups returns lists of states; any two in one list agree.
func groups() [][]api.State {
	return [][]api.State{small(), parts(9, 2), parts(40, 3), parts(150, 64), far(), append(parts(2, 1), of("1.1 root 1 -"), of(""))}
}

// states returns states of all kinds, of which many do not agree.
func states() []api.State {
	all := []api.State{{}, of(chapter), of("1.1 root 5 U+0062"), of("1.1 1.2 1 U+0061, 1.2 1.1 1 U+0062")}
	for i, s := range slices.Concat(groups()...) {
		if i >= 243 || i%7 == 0 {
			all = append(all, s)
		}
	}
	return all
}

// noDots returns dots that are not valid.
func noDots() []api.Dot {
	return []api.Dot{{}, at(0, 1), at(1, 0), at(65, 1), at(-1, 1), at(1, -1), at(64, 1<<32), at(1<<32+1, 1), at(math.MaxInt, math.MaxInt), at(math.MinInt, math.MinInt), at(1, math.MaxInt), at(1, math.MinInt)}
}

// noNodes returns nodes that are not valid, each of them in one part.
func noNodes(n api.Node) []api.Node {
	var all []api.Node
	add := func(change func(n *api.Node)) {
		bad := n
		change(&bad)
		all = append(all, bad)
	}
	for _, d := range noDots() {
		add(func(n *api.Node) { n.Dot = d })
		if d != (api.Dot{}) {
			add(func(n *api.Node) { n.Parent = d })
		}
	}
	for _, time := range []int{0, -1, math.MinInt, 1<<62 + 1, math.MaxInt} {
		add(func(n *api.Node) { n.Time = time })
	}
	for _, r := range []rune{-1, math.MinInt32, 0xd800, 0xdbff, 0xdc00, 0xdfff, 0x110000, math.MaxInt32} {
		add(func(n *api.Node) { n.Rune = r })
	}
	add(func(n *api.Node) { n.Parent = n.Dot })
	return all
}

// noStates returns states that are no store: at each place a node that is not valid, one that stands there twice, or two in the wrong order.
func noStates() []api.State {
	good := part(whole(9, 2), 5)
	all := []api.State{of("1.2 root 1 U+0061, 1.1 root 1 U+0062"), of("1.1 root 1 U+0061, 1.1 root 1 -"), of("2.1 root 1 -, 1.1 root 1 -")}
	for i, x := range good {
		for _, n := range noNodes(x) {
			bad := slices.Clone(good)
			bad[i] = n
			all = append(all, bad, api.State{n})
		}
		all = append(all, slices.Insert(slices.Clone(good), i, x))
		if i > 0 {
			bad := slices.Clone(good)
			bad[i-1], bad[i] = bad[i], bad[i-1]
			all = append(all, bad)
		}
	}
	return all
}

// digests returns digests of all kinds: those of states, all that are made of some few dots, with gaps or without them, and such with dots at their limits.
func digests() []api.Digest {
	all := []api.Digest{
		{}, dig(chapterOf), dig("1.1 2.1 / - and - / -"), dig("1.1 / 1.3 and - / -"), dig("1.3 2.1 / - and 1.3 / -"),
		dig("64.4294967295 / - and - / -"), dig("64.4294967295 / - and 64.4294967295 / -"), dig("- / 64.4294967295 and - / -"), dig("- / 64.4294967295 and - / 64.4294967295"), dig("1.4294967295 64.4294967295 / - and 64.1 / 1.4294967295"), dig("1.4294967293 / 1.4294967295 and - / 1.4294967293 1.4294967295"), dig("1.4294967294 / - and 1.4294967293 / -"), dig("1.7 / - and - / 1.2 1.4 1.6"), dig("1.9 3.9 / 2.3 2.9 and 1.2 / 3.4 2.9"),
		{All: everything(), Gone: everything()}, {All: everything()},
	}
	for _, s := range append(states(), small()...) {
		d, _ := expectedOf(s)
		all = append(all, d)
	}
	return all
}

// everything returns the context with all dots that there are.
func everything() api.Context {
	var c api.Context
	for replica := 1; replica <= 64; replica++ {
		c.Vector = append(c.Vector, at(replica, 4294967295))
	}
	return c
}

// some returns every few digests of the many.
func some() []api.Digest {
	var l []api.Digest
	for i, d := range digests() {
		if i < 16 || i%11 == 0 {
			l = append(l, d)
		}
	}
	return l
}

// noContexts returns contexts that are not valid, or not compact, with some few dots.
func noContexts() []api.Context {
	var all []api.Context
	for _, s := range []string{
		// The vector: a replica twice, or out of order.
		"2.1 1.1 / -", "1.1 1.1 / -", "1.1 1.2 / -", "1.1 3.1 2.1 / -", "1.1 3.1 3.1 / -",
		// The cloud: a dot twice, or out of order.
		"- / 1.3 1.3", "- / 1.3 1.2", "- / 2.2 1.2", "1.1 / 1.3 2.3 1.3", "1.1 / 1.3 1.5 1.5",
		// What is in the vector, or directly behind it.
		"- / 1.1", "1.1 / 1.1", "1.1 / 1.2", "1.3 / 1.2", "1.1 / 2.1", "1.1 2.2 / 2.3", "1.1 / 1.3 2.1", "1.1 / 1.2 1.3", "1.4294967295 / 1.4294967295", "1.4294967294 / 1.4294967295",
	} {
		all = append(all, ctx(s))
	}
	for _, d := range noDots() {
		all = append(all, api.Context{Vector: api.Vector{d}}, api.Context{Cloud: []api.Dot{d}}, api.Context{Vector: api.Vector{at(1, 1), d}}, api.Context{Vector: api.Vector{d, at(64, 1)}}, api.Context{Vector: api.Vector{at(1, 1)}, Cloud: []api.Dot{at(1, 3), d}}, api.Context{Cloud: []api.Dot{d, at(64, 4294967295)}})
	}
	return all
}

// noDigests returns digests that are not valid: with an All, or a Gone, or both, that is not valid or not compact, and with dots in Gone that are not in All.
func noDigests() []api.Digest {
	var all []api.Digest
	for _, c := range noContexts() {
		all = append(all, api.Digest{All: c}, api.Digest{All: everything(), Gone: c}, api.Digest{All: c, Gone: c}, api.Digest{All: c, Gone: ctx("1.1 / -")}, api.Digest{All: ctx("1.3 2.3 / -"), Gone: c}, api.Digest{Gone: c})
	}
	for _, s := range []string{
		"- / - and 1.1 / -", "- / - and - / 1.2", "1.1 / - and 2.1 / -", "1.1 / - and 1.2 / -", "1.1 / - and - / 1.2", "1.1 / 1.3 and 1.3 / -", "1.1 / 1.3 and 1.2 / -", "1.1 / 1.3 and - / 1.2", "1.1 / 1.3 and - / 1.3 1.4", "1.1 / 1.3 and - / 1.4", "1.1 / 1.3 and - / 2.3", "1.3 / - and - / 2.3", "1.3 / - and 1.4 / -", "1.3 2.2 / - and 1.3 2.3 / -", "1.3 3.3 / - and 1.3 2.1 3.3 / -", "1.3 / 2.3 and 1.3 2.3 / -", "1.4294967294 / - and 1.4294967295 / -", "1.4294967294 / - and - / 1.4294967295", "- / 1.4294967295 and 1.4294967295 / -", "- / 1.3 and - / 1.3 1.5", "- / 1.3 1.5 and - / 1.3 1.4 1.5", "- / 1.2 1.3 and - / 1.2 1.3 2.3",
	} {
		all = append(all, dig(s))
	}
	return all
}
