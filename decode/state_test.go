package decode_test

import (
	"bytes"
	"math"
	"runtime"
	"slices"
	"testing"

	"redpencil/api"
	"redpencil/decode"
)

// refused checks that bytes are those of no state, and begin with those of none.
func refused(t *testing.T, p []byte) {
	t.Helper()
	if s, e := decode.State(p); s != nil || e != api.ErrMalformed {
		t.Errorf("State(%v) = %v, %d", start(p), start(s), e)
	}
	if s, n, e := decode.Prefix(p); s != nil || n != 0 || e != api.ErrMalformed {
		t.Errorf("Prefix(%v) = %v, %d, %d", start(p), start(s), n, e)
	}
}

// taken checks that bytes are those of a state, and that with others behind them they still begin with these.
func taken(t *testing.T, p []byte, want api.State) {
	t.Helper()
	if s, e := decode.State(p); !slices.Equal(s, want) || e != api.OK {
		t.Errorf("State(%v) = %v, %d, want %v", start(p), start(s), e, start(want))
	}
	for _, behind := range [][]byte{nil, {0}, {7}, {128}, {255, 255}, bytes.Repeat([]byte{255}, 20), {0, 0}, p} {
		all := slices.Concat(p, behind)
		if s, n, e := decode.Prefix(all); !slices.Equal(s, want) || n != len(p) || e != api.OK {
			t.Errorf("Prefix(%v) = %v, %d, %d, want %v, %d", start(all), start(s), n, e, start(want), len(p))
		}
		if len(behind) == 0 {
			continue
		}
		if s, e := decode.State(all); s != nil || e != api.ErrMalformed {
			t.Errorf("State(%v) = %v, %d", start(all), start(s), e)
		}
	}
}

// P18.1: the chapter's examples.
func TestExamplesOfStates(t *testing.T) {
	taken(t, raw("0 0"), nil)
	taken(t, raw("1 1 1 0 2 1 97"), of("1.1 root 1 U+0061"))
	if s, n, e := decode.Prefix(raw("0 0 7")); len(s) != 0 || n != 2 || e != api.OK {
		t.Errorf("Prefix(0 0 7) = %v, %d, %d", s, n, e)
	}
	for _, p := range []string{"0", "0 0 7", "128 0 0", "1 1 1 0 2 1 255", "1 1 1 0 2 0", "1 1 0 0 2 1 97", "2 1 1 0 2 1 0 0 2 2 97 97"} {
		if s, e := decode.State(raw(p)); s != nil || e != api.ErrMalformed {
			t.Errorf("State(%s) = %v, %d", p, s, e)
		}
	}
}

// P18.1: edge cases of each part, byte by byte.
func TestState(t *testing.T) {
	for _, c := range []struct{ bytes, want string }{
		{"0 0", ""},
		{"2 2 3 1 2 141 1 1 197 1 2 3 142 1 2 195 169", "2.3 1.2 70 -, 1.200 2.3 71 U+00E9"},
		// One node, dead.
		{"1 1 1 0 3 0", "1.1 root 1 -"},
		// Runes of one byte to four.
		{"1 1 1 0 2 1 1", "1.1 root 1 U+0001"},
		{"1 1 1 0 2 1 127", "1.1 root 1 U+007F"},
		{"1 1 1 0 2 2 194 128", "1.1 root 1 U+0080"},
		{"1 1 1 0 2 2 223 191", "1.1 root 1 U+07FF"},
		{"1 1 1 0 2 3 224 160 128", "1.1 root 1 U+0800"},
		{"1 1 1 0 2 3 237 159 191", "1.1 root 1 U+D7FF"},
		{"1 1 1 0 2 3 238 128 128", "1.1 root 1 U+E000"},
		{"1 1 1 0 2 3 239 191 189", "1.1 root 1 U+FFFD"},
		{"1 1 1 0 2 3 239 191 191", "1.1 root 1 U+FFFF"},
		{"1 1 1 0 2 4 240 144 128 128", "1.1 root 1 U+10000"},
		{"1 1 1 0 2 4 244 143 191 191", "1.1 root 1 U+10FFFF"},
		// Parents: the root, and with numbers of each length, up to the greatest ones; they need not be there, nor stand before the node.
		{"1 2 1 1 1 2 1 97", "2.1 1.1 1 U+0061"},
		{"1 2 1 1 127 2 1 97", "2.1 1.127 1 U+0061"},
		{"1 2 1 1 128 1 2 1 97", "2.1 1.128 1 U+0061"},
		{"1 2 1 1 255 127 2 1 97", "2.1 1.16383 1 U+0061"},
		{"1 2 1 1 128 128 1 2 1 97", "2.1 1.16384 1 U+0061"},
		{"1 2 1 64 255 255 255 255 15 3 0", "2.1 64.4294967295 1 -"},
		{"1 1 1 1 2 3 0", "1.1 1.2 1 -"},
		{"2 1 1 1 2 3 1 1 1 1 3 0", "1.1 1.2 1 -, 1.2 1.1 1 -"},
		// Times: both sides of a length, and the greatest one, alive and dead.
		{"1 1 1 0 126 1 97", "1.1 root 63 U+0061"},
		{"1 1 1 0 127 0", "1.1 root 63 -"},
		{"1 1 1 0 128 1 1 97", "1.1 root 64 U+0061"},
		{"1 1 1 0 129 1 0", "1.1 root 64 -"},
		{"1 1 1 0 255 127 0", "1.1 root 8191 -"},
		{"1 1 1 0 128 128 1 1 97", "1.1 root 8192 U+0061"},
		{"1 1 1 0 255 255 255 255 255 255 255 255 127 0", "1.1 root 4611686018427387903 -"},
		{"1 1 1 0 128 128 128 128 128 128 128 128 128 1 1 97", "1.1 root 4611686018427387904 U+0061"},
		{"1 1 1 0 129 128 128 128 128 128 128 128 128 1 0", "1.1 root 4611686018427387904 -"},
		// Dots: the greatest one, and counters that are equal, follow on each other, or are far apart.
		{"1 64 255 255 255 255 15 0 2 1 97", "64.4294967295 root 1 U+0061"},
		{"2 1 5 0 2 64 0 0 2 2 97 98", "1.5 root 1 U+0061, 64.5 root 1 U+0062"},
		{"2 1 5 0 2 1 1 0 2 2 97 98", "1.5 root 1 U+0061, 1.6 root 1 U+0062"},
		{"2 7 5 0 2 1 127 0 2 2 97 98", "7.5 root 1 U+0061, 1.132 root 1 U+0062"},
		{"2 7 5 0 2 1 128 1 0 2 2 97 98", "7.5 root 1 U+0061, 1.133 root 1 U+0062"},
		{"3 1 1 0 3 1 254 255 255 255 15 0 2 2 0 1 1 5 1 97", "1.1 root 1 -, 1.4294967295 root 1 U+0061, 2.4294967295 1.1 2 -"},
		// The runes stand in the order of the nodes, without those of dead ones.
		{"5 1 1 0 2 2 0 0 3 3 0 0 2 1 1 3 1 4 3 0 2 1 5 8 226 130 172 97 240 159 152 128", "1.1 root 1 U+20AC, 2.1 root 1 -, 3.1 root 1 U+0061, 1.2 3.1 2 U+1F600, 3.2 2.1 2 -"},
		{"3 1 1 0 3 2 0 0 3 3 0 0 2 1 97", "1.1 root 1 -, 2.1 root 1 -, 3.1 root 1 U+0061"},
	} {
		taken(t, raw(c.bytes), of(c.want))
	}
}

// P18.1: nothing, and numbers that end too soon, are not written in the shortest way, or are too great, in each place.
func TestNumbersThatAreNotRight(t *testing.T) {
	refused(t, nil)
	refused(t, []byte{})
	for _, p := range []string{
		// The number of nodes.
		"0", "128", "255", "128 0", "128 0 0", "128 128 0 0", "129 0 1 1 0 2 1 97", "129 128 0 1 1 0 2 1 97", "128 128 128 128 128 128 128 128 128 0 0", "255 255 255 255 255 255 255 255 255 255 0", "128 128 128 128 128 128 128 128 128 2 0",
		// The replica, and the counter, of the dot.
		"1", "1 129 0 1 0 2 1 97", "1 1", "1 1 129 0 0 2 1 97", "1 1 129 128 0 0 2 1 97", "1 1 128",
		// Those of the parent.
		"1 1 1", "1 1 1 128 0 2 1 97", "1 1 1 128 128 0 2 1 97", "1 1 1 129 0 2 2 1 97", "1 1 1 2", "1 1 1 2 129 0 2 1 97", "1 1 1 2 128",
		// The time.
		"1 1 1 0", "1 1 1 0 130 0 1 97", "1 1 1 0 130 128 0 1 97", "1 1 1 0 131 0 0", "1 1 1 0 130",
		// The length of the text.
		"0 128 0", "0 128 128 0", "1 1 1 0 2", "1 1 1 0 2 129 0 97", "1 1 1 0 3 128 0", "1 1 1 0 2 129", "1 1 1 0 3 128",
	} {
		refused(t, raw(p))
	}
}

// P18.1: replicas, counters, parents and times that are not allowed.
func TestNodesThatAreNotAllowed(t *testing.T) {
	for _, p := range []string{
		// Replicas.
		"1 0 1 0 2 1 97", "1 65 1 0 2 1 97", "1 128 1 1 0 2 1 97", "1 129 2 1 0 2 1 97", "1 129 128 128 128 16 1 0 3 0", "1 255 255 255 255 255 255 255 255 255 1 1 0 3 0",
		// Counters.
		"1 1 0 0 2 1 97", "1 0 0 0 2 1 97", "1 1 128 128 128 128 16 0 2 1 97", "1 1 129 128 128 128 16 0 2 1 97", "1 1 255 255 255 255 255 255 255 255 255 1 0 2 1 97", "2 1 0 0 3 1 1 0 3 0",
		// Parents: one with the counter 0, or of a replica or with a counter that is too great, and the node itself.
		"1 1 1 1 0 2 1 97", "1 1 1 64 0 3 0", "1 1 1 65 1 2 1 97", "1 1 1 65 0 2 1 97", "1 1 1 129 2 1 2 1 97", "1 1 1 128 2 0 2 1 97", "1 1 1 2 128 128 128 128 16 2 1 97", "1 1 1 2 129 128 128 128 16 2 1 97", "1 1 1 1 1 2 1 97", "1 1 1 1 1 3 0", "1 64 255 255 255 255 15 64 255 255 255 255 15 3 0", "2 1 1 0 3 1 1 1 2 3 0",
		// Behind the root there is no counter.
		"1 1 1 0 0 2 1 97", "1 1 1 0 0 3 0",
		// Times.
		"1 1 1 0 0 1 97", "1 1 1 0 1 0", "1 1 1 0 130 128 128 128 128 128 128 128 128 1 1 97", "1 1 1 0 131 128 128 128 128 128 128 128 128 1 0", "1 1 1 0 130 128 128 128 128 128 128 128 128 1 0", "1 1 1 0 255 255 255 255 255 255 255 255 255 1 0", "1 1 1 0 254 255 255 255 255 255 255 255 255 1 1 97",
		// The same behind another node.
		"2 1 1 0 3 0 1 0 3 0", "2 1 1 0 3 65 1 0 3 0", "2 1 1 0 3 1 1 1 0 3 0", "2 1 1 0 3 1 1 65 1 3 0", "2 1 1 0 3 1 1 0 1 0", "2 1 1 0 3 1 1 0 0 1 97",
	} {
		refused(t, raw(p))
	}
}

// P18.1: nodes out of order, or twice, and counters that grow beyond the greatest one, in one step or in many.
func TestNodesThatAreNoStore(t *testing.T) {
	for _, p := range []string{
		"2 1 1 0 2 1 0 0 2 2 97 97", "2 1 1 0 2 1 0 0 3 1 97", "2 1 1 0 2 1 0 0 2 2 97 98", "2 2 1 0 2 1 0 0 2 2 97 98", "3 1 1 0 3 2 0 0 3 2 0 0 3 0", "3 1 1 0 3 3 0 0 3 2 0 0 3 0", "2 64 4 0 3 63 0 0 3 0",
		// Counters that are less than the one before need more than 2^64 - 1, or just less than that.
		"2 1 5 0 3 2 255 255 255 255 255 255 255 255 255 1 0 3 0", "2 1 5 0 3 2 252 255 255 255 15 0 3 0",
		// The greatest counter, and one more.
		"2 1 1 0 3 1 255 255 255 255 15 0 3 0", "2 1 255 255 255 255 15 0 3 1 1 0 3 0", "2 1 255 255 255 255 15 0 3 2 255 255 255 255 15 0 3 0",
		"3 1 255 255 255 255 15 0 3 2 0 0 3 2 1 0 3 0", "3 1 128 128 128 128 8 0 3 1 255 255 255 255 7 0 3 1 1 0 3 0",
	} {
		refused(t, raw(p))
	}
	taken(t, raw("3 1 128 128 128 128 8 0 3 1 255 255 255 255 7 0 3 2 0 0 3 0"), of("1.2147483648 root 1 -, 1.4294967295 root 1 -, 2.4294967295 root 1 -"))
	// Steps that come again to a counter that is allowed only if numbers are too small for their sum.
	for _, size := range []int{3, 4, 65536} {
		s := slices.Repeat(raw("1 128 128 128 128 8 0 3"), size)
		refused(t, slices.Concat(numbers(size), s, raw("0")))
		s = slices.Repeat(raw("1 255 255 255 255 15 0 3"), size)
		refused(t, slices.Concat(numbers(size), s, raw("0")))
	}
}

// P18.1: texts that are not UTF-8, have the character 0, or are too long or too short for the nodes.
func TestTextsThatAreNotRight(t *testing.T) {
	one, none, two, deadBetween := "1 1 1 0 2 ", "1 1 1 0 3 ", "2 1 1 0 2 2 0 0 2 ", "3 1 1 0 2 2 0 0 3 3 0 0 2 "
	for _, p := range []string{
		// Too few runes, and too many.
		one + "0", one + "2 97 98", one + "3 97 98 99", one + "3 195 169 97", none + "1 97", none + "1 0", none + "2 195 169", none + "4 240 159 152 128", "0 1 97", "0 1 0", "0 2 195 169",
		two + "0", two + "1 97", two + "3 97 98 99", two + "2 195 169", two + "4 240 159 152 128", two + "8 97 98 99 100 101 102 103 104", deadBetween + "1 97", deadBetween + "3 97 98 99",
		// The character 0.
		one + "1 0", two + "2 0 97", two + "2 97 0", two + "2 0 0", deadBetween + "3 97 0 98",
		// Parts of characters.
		one + "1 128", one + "1 191", one + "1 194", one + "1 195", one + "1 226", one + "2 226 130", one + "1 240", one + "2 240 159", one + "3 240 159 152", one + "2 195 97", one + "2 97 169", two + "2 195 97", two + "3 195 169 169", two + "3 97 226 130", two + "4 226 130 172 128", two + "2 195 195",
		// Longer ways to write a number.
		one + "2 192 128", one + "2 193 191", one + "2 193 161", one + "3 224 128 128", one + "3 224 159 191", one + "4 240 128 128 128", one + "4 240 143 191 191", one + "3 224 131 169",
		// Halves of surrogate pairs, and numbers beyond the greatest rune.
		one + "3 237 160 128", one + "3 237 175 191", one + "3 237 176 128", one + "3 237 191 191", one + "4 244 144 128 128", one + "4 247 191 191 191", one + "5 248 136 128 128 128", one + "6 252 132 128 128 128 128", two + "6 237 160 128 237 176 128",
		// Bytes that are in no character.
		one + "1 255", one + "1 254", one + "1 192", one + "1 245", one + "4 245 128 128 128", two + "2 97 255", two + "2 255 97", deadBetween + "2 97 255",
		// Fewer bytes than the length says.
		one + "1", one + "2 195", one + "4 240 159 152", two + "2 97", two + "2", two + "3 97 195",
		// A length that is the number of runes, instead of that of bytes.
		one + "1 195 169", two + "2 195 169 97",
	} {
		refused(t, raw(p))
	}
	// The character that bytes that are not UTF-8 are often replaced by is one like others.
	taken(t, raw(one+"3 239 191 189"), of("1.1 root 1 U+FFFD"))
	taken(t, raw(deadBetween+"3 195 169 97"), of("1.1 root 1 U+00E9, 2.1 root 1 -, 3.1 root 1 U+0061"))
}

// P18.1
func TestManyStates(t *testing.T) {
	all := slices.Concat(small(2), states(), long())
	for i, s := range all {
		p := written(s)
		if got, e := decode.State(p); !slices.Equal(got, s) || e != api.OK {
			t.Fatalf("State(%v) = %d nodes, %d, want %d", start(p), len(got), e, len(s))
		}
		// Behind the bytes stand those of other states, or some of them.
		next := written(all[(i*7+3)%len(all)])
		p = slices.Concat(p, next[:i%(len(next)+1)])
		if got := check(t, p); !got.prefix {
			t.Fatalf("Prefix(%v) has an error", start(p))
		}
	}
}

// P18.1: lists of nodes that are no state, written as if they were, also those the last, or the first, node of which alone is wrong.
func TestWhatWouldBeWrittenOfNoStates(t *testing.T) {
	good := part(whole(9, 2), 5)
	for i, n := range good {
		for _, d := range noDots() {
			bad := n
			bad.Dot = d
			refused(t, written(append(slices.Clone(good[:i]), bad)))
			refused(t, written(append(api.State{bad}, good[i:]...)))
			bad = n
			// A parent with the replica 0 is the root, whatever its counter is: that is not written.
			if bad.Parent = d; d.Replica != 0 {
				refused(t, written(slices.Replace(slices.Clone(good), i, i+1, bad)))
			}
		}
		for _, time := range []int{0, -1, math.MinInt, 1<<62 + 1, math.MaxInt} {
			bad := n
			bad.Time = time
			refused(t, written(slices.Replace(slices.Clone(good), i, i+1, bad)))
		}
		for _, r := range []rune{0xd800, 0xdbff, 0xdc00, 0xdfff, 0x110000, 0x1fffff} {
			bad := n
			bad.Rune = r
			refused(t, written(slices.Replace(slices.Clone(good), i, i+1, bad)))
		}
		bad := n
		bad.Parent = bad.Dot
		refused(t, written(slices.Replace(slices.Clone(good), i, i+1, bad)))
		refused(t, written(slices.Insert(slices.Clone(good), i, n)))
		if i > 0 {
			l := slices.Clone(good)
			l[i-1], l[i] = l[i], l[i-1]
			refused(t, written(l))
		}
	}
}

// P18.1: as many nodes as there may be, and one more.
func TestTheGreatestNumberOfNodes(t *testing.T) {
	s := whole(65537, 64)
	last := slices.Clone(s)
	last[65535].Dot = at(64, 4294967295)
	for _, x := range []api.State{s, killed(s), part(whole(100000, 64), 2), last} {
		for _, size := range []int{65535, 65536} {
			taken(t, written(x[:size]), x[:size])
		}
		refused(t, written(x[:65537]))
	}
	for _, place := range []int{0, 30000, 65535} {
		bad := slices.Clone(s[:65536])
		bad[place].Time = 0
		refused(t, written(bad))
		bad = slices.Clone(s[:65536])
		bad[place].Rune = 0xd800
		refused(t, written(bad))
		bad = slices.Clone(s[:65536])
		bad[place] = bad[(place+65535)%65536]
		refused(t, written(bad))
	}
}

// P18.1: runes of the greatest number of bytes that a text can have, and one byte more.
func TestTheLongestTexts(t *testing.T) {
	for _, size := range []int{1, 2, 31, 32, 4095, 4096, 65536} {
		s := whole(size, 64)
		for i := range s {
			s[i].Rune = 0x10ffff
		}
		p := written(s)
		taken(t, p, s)
		head := p[:len(p)-4*size-len(numbers(4*size))]
		refused(t, slices.Concat(head, numbers(4*size+1), bytes.Repeat(raw("244 143 191 191"), size), raw("97")))
		refused(t, slices.Concat(head, numbers(4*size+4), bytes.Repeat(raw("244 143 191 191"), size+1)))
		refused(t, slices.Concat(head, numbers(4*size-4), bytes.Repeat(raw("244 143 191 191"), size-1)))
		refused(t, slices.Concat(head, numbers(4*size), bytes.Repeat([]byte("a"), 4*size)))
	}
}

// tooMany are numbers far beyond what stands behind them.
func tooMany() []uint64 {
	return []uint64{2, 3, 127, 128, 1000, 65535, 65536, 65537, 131072, 1<<31 - 1, 1 << 31, 1<<32 - 1, 1 << 32, 1<<32 + 1, 1<<62 - 1, 1 << 62, 1<<63 - 1, 1 << 63, 1<<63 + 1, 1<<64 - 65536, 1<<64 - 2, 1<<64 - 1}
}

// P18.1: numbers of nodes, and of bytes, far beyond what follows.
func TestMoreThanFollows(t *testing.T) {
	for _, n := range tooMany() {
		for _, p := range []string{"", "0", "0 0", "1 1 0 2", "1 1 0 2 1 97", "1 1 0 3 0", "0 0 0 0 0 0 0 0"} {
			refused(t, slices.Concat(number(n), raw(p)))
		}
		for _, p := range []string{"0", "1 1 1 0 2", "1 1 1 0 3", "2 1 1 0 2 2 0 0 2"} {
			refused(t, slices.Concat(raw(p), number(n)))
			if n > 2 {
				refused(t, slices.Concat(raw(p), number(n), raw("97 98")))
			}
		}
	}
}

// P1: what the bytes only say that there is takes no memory.
func TestMoreThanFollowsTakesNoMemory(t *testing.T) {
	var before, after runtime.MemStats
	const rounds = 1000
	all := [][]byte{raw("128 128 4"), raw("128 128 4 1 1 0 3"), raw("1 1 1 0 2 4"), raw("1 1 1 0 2 255 255 255 255 7"), raw("0 255 255 255 255 255 255 255 255 127"), raw("255 255 255 255 255 255 255 255 127"), raw("128 128 4 1 1"), raw("0 128 128 4"), raw("1 1 1 128 128 4 1 1")}
	runtime.ReadMemStats(&before)
	for range rounds {
		for _, p := range all {
			decode.State(p)
			decode.Prefix(p)
			decode.Context(p)
		}
	}
	runtime.ReadMemStats(&after)
	if each := (after.TotalAlloc - before.TotalAlloc) / uint64(3*rounds*len(all)); each > 5000 {
		t.Errorf("each call took %d bytes", each)
	}
}
