package decode_test

import (
	"bytes"
	"fmt"
	"slices"
	"strconv"
	"strings"
	"testing"

	"redpencil/api"
	"redpencil/decode"
)

// at returns a dot, which need not be valid.
func at(replica, counter int) api.Dot { return api.Dot{Replica: replica, Counter: counter} }

// dots returns the dots that a text names, in its order, whether they are valid or not; "-" stands for none.
func dots(s string) []api.Dot {
	var l []api.Dot
	for _, part := range strings.Fields(s) {
		var d api.Dot
		if part == "-" {
			continue
		}
		if n, err := fmt.Sscanf(part, "%d.%d", &d.Replica, &d.Counter); n != 2 || err != nil {
			panic("no dot: " + part)
		}
		l = append(l, d)
	}
	return l
}

// ctx returns the context that is written as the chapter writes it: the vector, a bar, and the dots of the cloud.
func ctx(s string) api.Context {
	v, cloud, found := strings.Cut(s, " / ")
	if !found {
		panic("no context: " + s)
	}
	return api.Context{Vector: dots(v), Cloud: dots(cloud)}
}

// of returns the state with the nodes that a text names, with commas in between; they need not be valid.
func of(s string) api.State {
	var out api.State
	for part := range strings.SplitSeq(s, ",") {
		f := strings.Fields(part)
		if len(f) == 0 {
			continue
		}
		n := api.Node{Dot: dots(f[0])[0]}
		if f[1] != "root" {
			n.Parent = dots(f[1])[0]
		}
		fmt.Sscanf(f[2], "%d", &n.Time)
		fmt.Sscanf(f[3], "U+%X", &n.Rune)
		out = append(out, n)
	}
	return out
}

// raw returns the bytes that a text names.
func raw(s string) []byte {
	var b []byte
	for _, part := range strings.Fields(s) {
		n, err := strconv.ParseUint(part, 10, 8)
		if err != nil {
			panic("no byte: " + part)
		}
		b = append(b, byte(n))
	}
	return b
}

// isDot says which dots are valid, as chapter 4 defines it.
func isDot(d api.Dot) bool {
	return d.Replica > 0 && d.Replica < 65 && d.Counter > 0 && d.Counter < 4294967296
}

// isBefore says which of two dots stands first in a set, as chapter 4 defines it.
func isBefore(a, b api.Dot) bool {
	return a.Counter < b.Counter || a.Counter == b.Counter && a.Replica < b.Replica
}

// isNode says which nodes are valid, as chapter 9 defines it.
func isNode(n api.Node) bool {
	rune := n.Rune == 0 || 0 < n.Rune && n.Rune < 0xd800 || 0xdfff < n.Rune && n.Rune < 0x110000
	return isDot(n.Dot) && (n.Parent == api.Dot{} || isDot(n.Parent)) && n.Parent != n.Dot && 0 < n.Time && n.Time <= 4611686018427387904 && rune
}

// isState says which states are stores, as chapter 10 defines it.
func isState(s api.State) bool {
	for i, n := range s {
		if !isNode(n) || i > 0 && !isBefore(s[i-1].Dot, n.Dot) {
			return false
		}
	}
	return true
}

// isCompact says which contexts are valid and compact, as chapter 6 defines it.
func isCompact(c api.Context) bool {
	last := map[int]int{}
	for i, d := range c.Vector {
		if !isDot(d) || i > 0 && d.Replica <= c.Vector[i-1].Replica {
			return false
		}
		last[d.Replica] = d.Counter
	}
	for i, d := range c.Cloud {
		if !isDot(d) || i > 0 && !isBefore(c.Cloud[i-1], d) || d.Counter <= last[d.Replica]+1 {
			return false
		}
	}
	return true
}

// number returns the bytes of a number, as chapter 1 defines them: from the last group on, each group before it with another one behind it.
func number(n uint64) []byte {
	if n < 128 {
		return []byte{byte(n)}
	}
	return append([]byte{byte(n%128 + 128)}, number(n/128)...)
}

// numbers returns the bytes of some numbers, one after the other.
func numbers(l ...int) []byte {
	var b []byte
	for _, n := range l {
		b = append(b, number(uint64(n))...)
	}
	return b
}

// utf8Of returns the bytes of a rune, as chapter 2 defines them.
func utf8Of(r rune) []byte {
	rest := func(n rune) byte { return byte(0x80 + n%0x40) }
	switch {
	case r < 0x80:
		return []byte{byte(r)}
	case r < 0x800:
		return []byte{byte(0xc0 + r/0x40), rest(r)}
	case r < 0x10000:
		return []byte{byte(0xe0 + r/0x1000), rest(r / 0x40), rest(r)}
	}
	return []byte{byte(0xf0 + r/0x40000), rest(r / 0x1000), rest(r / 0x40), rest(r)}
}

// written returns the bytes that a list of nodes has, as chapter 17 defines them, whether it is a state or not.
func written(s api.State) []byte {
	b := numbers(len(s))
	var text []byte
	before := 0
	for _, n := range s {
		b = append(b, numbers(n.Dot.Replica, n.Dot.Counter-before, n.Parent.Replica)...)
		before = n.Dot.Counter
		if n.Parent.Replica != 0 {
			b = append(b, numbers(n.Parent.Counter)...)
		}
		twice := uint64(n.Time) + uint64(n.Time)
		if n.Rune == 0 {
			b = append(b, number(twice+1)...)
			continue
		}
		b = append(b, number(twice)...)
		text = append(text, utf8Of(n.Rune)...)
	}
	return slices.Concat(b, numbers(len(text)), text)
}

// writtenContext returns the bytes that two lists of dots have, as chapter 17 defines them, whether they are a context or not.
func writtenContext(c api.Context) []byte {
	var b []byte
	for _, l := range [][]api.Dot{c.Vector, c.Cloud} {
		b = append(b, numbers(len(l))...)
		for _, d := range l {
			b = append(b, numbers(d.Replica, d.Counter)...)
		}
	}
	return b
}

// lax takes bytes as numbers, however these are written: what is wrong with them is seen when they are written again.
type lax struct {
	rest  []byte
	ended bool
}

// number takes a number.
func (l *lax) number() int {
	n := uint64(0)
	for shift := 0; len(l.rest) > 0; shift += 7 {
		b := l.rest[0]
		l.rest = l.rest[1:]
		n += uint64(b%128) << shift
		if b < 128 {
			return int(n)
		}
	}
	l.ended = true
	return 0
}

// dot takes a dot.
func (l *lax) dot() api.Dot {
	replica := l.number()
	return at(replica, l.number())
}

// expectedPrefix returns what Prefix has to return, and whether it has no error: the only state that the bytes can begin with, if they begin with the bytes of it.
func expectedPrefix(p []byte) (api.State, int, bool) {
	l := &lax{rest: p}
	size := l.number()
	var s api.State
	var living []int
	for i := 0; i < size && i < 65537 && !l.ended; i++ {
		var n api.Node
		n.Dot = l.dot()
		if i > 0 {
			n.Dot.Counter += s[i-1].Dot.Counter
		}
		if n.Parent.Replica = l.number(); n.Parent.Replica != 0 {
			n.Parent.Counter = l.number()
		}
		twice := uint64(l.number())
		n.Time = int(twice / 2)
		if twice%2 == 0 {
			living = append(living, i)
		}
		s = append(s, n)
	}
	length := l.number()
	if l.ended || len(s) != size || size > 65536 || length < 0 || length > len(l.rest) {
		return nil, 0, false
	}
	// Bytes that are no UTF-8 become a rune with other bytes here.
	text := []rune(string(l.rest[:length]))
	if len(text) != len(living) {
		return nil, 0, false
	}
	for k, i := range living {
		s[i].Rune = text[k]
	}
	own := written(s)
	if !isState(s) || !bytes.HasPrefix(p, own) {
		return nil, 0, false
	}
	return s, len(own), true
}

// expectedContext returns what Context has to return, and whether it has no error.
func expectedContext(p []byte) (api.Context, int, bool) {
	l := &lax{rest: p}
	var lists [2][]api.Dot
	for k := range lists {
		size := l.number()
		for i := 0; i < size && i < 65537 && !l.ended; i++ {
			lists[k] = append(lists[k], l.dot())
		}
		if l.ended || len(lists[k]) != size || size > 65536 {
			return api.Context{}, 0, false
		}
	}
	c := api.Context{Vector: lists[0], Cloud: lists[1]}
	own := writtenContext(c)
	if !isCompact(c) || !bytes.HasPrefix(p, own) {
		return api.Context{}, 0, false
	}
	return c, len(own), true
}

// equalContexts reports whether two contexts are equal in all parts.
func equalContexts(a, b api.Context) bool {
	return slices.Equal(a.Vector, b.Vector) && slices.Equal(a.Cloud, b.Cloud)
}

// start returns the first of some bytes, nodes or dots, to be shown.
func start[E any](l []E) []E { return l[:min(len(l), 60)] }

// accepted is which functions have no error.
type accepted struct{ state, prefix, context bool }

// check compares what the functions return for bytes with what they have to return.
func check(t *testing.T, p []byte) accepted {
	t.Helper()
	want, most, begins := expectedPrefix(p)
	if s, n, e := decode.Prefix(p); begins && (!slices.Equal(s, want) || n != most || e != api.OK) || !begins && (s != nil || n != 0 || e != api.ErrMalformed) {
		t.Fatalf("Prefix(%v) = %v, %d, %d, want %v, %d, %t", start(p), start(s), n, e, start(want), most, begins)
	}
	is := begins && most == len(p)
	if s, e := decode.State(p); is && (!slices.Equal(s, want) || e != api.OK) || !is && (s != nil || e != api.ErrMalformed) {
		t.Fatalf("State(%v) = %v, %d, want %v, %t", start(p), start(s), e, start(want), is)
	}
	all, most, has := expectedContext(p)
	if c, n, e := decode.Context(p); has && (!equalContexts(c, all) || n != most || e != api.OK) || !has && (c.Vector != nil || c.Cloud != nil || n != 0 || e != api.ErrMalformed) {
		t.Fatalf("Context(%v) = %v, %v, %d, %d, want %v, %v, %d, %t", start(p), start(c.Vector), start(c.Cloud), n, e, start(all.Vector), start(all.Cloud), most, has)
	}
	return accepted{is, begins, has}
}
