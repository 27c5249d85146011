package canon_test

import (
	"bytes"
	"fmt"
	"slices"
	"testing"

	"redpencil/api"
	"redpencil/canon"
	"redpencil/store"
)

// bytesOf returns the bytes of a state, which must not fail.
func bytesOf(t *testing.T, s api.State) []byte {
	t.Helper()
	b, e := canon.Encode(s)
	if e != api.OK {
		t.Fatalf("Encode(%v) = %v, %d", s, b, e)
	}
	return b
}

// contextBytes returns the bytes of a context, which must not fail.
func contextBytes(t *testing.T, c api.Context) []byte {
	t.Helper()
	b, e := canon.Context(c)
	if e != api.OK {
		t.Fatalf("Context(%v) = %v, %d", c, b, e)
	}
	return b
}

// named is some bytes, and the name of that whose bytes they are.
type named struct {
	bytes []byte
	name  string
}

// checkApart finds two different things with equal bytes, or one whose bytes begin with those of another one.
func checkApart(t *testing.T, all []named) {
	t.Helper()
	slices.SortFunc(all, func(a, b named) int { return bytes.Compare(a.bytes, b.bytes) })
	all = slices.CompactFunc(all, func(a, b named) bool { return a.name == b.name && bytes.Equal(a.bytes, b.bytes) })
	// In this order, all that begins with some bytes stands directly behind them.
	for i := range all[1:] {
		if a, b := all[i], all[i+1]; bytes.HasPrefix(b.bytes, a.bytes) {
			t.Fatalf("%s has the bytes %v, and %s has %v", a.name, a.bytes, b.name, b.bytes)
		}
	}
}

// P17.3: different states have different bytes, and the bytes of a state do not begin with those of another one.
func TestStatesStayApart(t *testing.T) {
	var all []named
	names := map[string]bool{}
	for _, s := range slices.Concat(small(3), states()) {
		name := fmt.Sprint(s)
		all, names[name] = append(all, named{bytesOf(t, s), name}), true
	}
	if len(names) < 10000 {
		t.Errorf("there are only %d different states", len(names))
	}
	checkApart(t, all)
}

// P17.3: the same for contexts.
func TestContextsStayApart(t *testing.T) {
	var all []named
	names := map[string]bool{}
	for _, c := range contexts() {
		// With very many dots it is enough to know how many there are, and which is the last one.
		name := fmt.Sprint(c.Vector, len(c.Cloud), c.Cloud[max(0, len(c.Cloud)-5):])
		all, names[name] = append(all, named{contextBytes(t, c), name}), true
	}
	if len(names) < 200 {
		t.Errorf("there are only %d different contexts", len(names))
	}
	checkApart(t, all)
}

// changed returns a node with other values in each single part, if they are allowed.
func changed(n api.Node) []api.Node {
	var all []api.Node
	add := func(change func(n *api.Node)) {
		other := n
		change(&other)
		if isNode(other) && other != n {
			all = append(all, other)
		}
	}
	for _, by := range []int{-1, 1, 128, 1 << 14} {
		add(func(n *api.Node) { n.Dot.Replica += by })
		add(func(n *api.Node) { n.Dot.Counter += by })
		add(func(n *api.Node) { n.Parent.Replica += by })
		add(func(n *api.Node) { n.Parent.Counter += by })
		add(func(n *api.Node) { n.Time += by })
		add(func(n *api.Node) { n.Rune += rune(by) })
	}
	add(func(n *api.Node) { n.Parent = api.Dot{} })
	add(func(n *api.Node) { n.Parent = at(1, 1) })
	add(func(n *api.Node) { n.Rune = 0 })
	add(func(n *api.Node) { n.Rune = 'z' })
	return all
}

// P17.3: a state that is changed in one part of one node, or has one node less, has other bytes, and neither of both begins with the other one.
func TestEachPartOfAStateCounts(t *testing.T) {
	pairs := 0
	for _, s := range append(states(), whole(127, 3), whole(128, 64)) {
		own := bytesOf(t, s)
		apart := func(other api.State) {
			if !isState(other) {
				return
			}
			pairs++
			if b := bytesOf(t, other); bytes.HasPrefix(b, own) || bytes.HasPrefix(own, b) {
				t.Fatalf("%v has the bytes %v, and %v has %v", s, own, other, b)
			}
		}
		for i, n := range s {
			apart(slices.Delete(slices.Clone(s), i, i+1))
			for _, other := range changed(n) {
				next := slices.Clone(s)
				next[i] = other
				apart(next)
			}
		}
	}
	if pairs < 50000 {
		t.Errorf("there were only %d pairs", pairs)
	}
}

// P17.3: killing a node, or some of them, never makes the bytes longer; without a rune there is at least a byte less.
func TestKillingMakesNothingLonger(t *testing.T) {
	for _, s := range slices.Concat(small(2), states(), []api.State{whole(127, 3), whole(128, 64)}) {
		size, e := canon.Size(s)
		if e != api.OK {
			t.Fatalf("Size(%v) = %d, %d", s, size, e)
		}
		var dots []api.Dot
		last := size
		for i, n := range s {
			one, e := store.Kill(s, []api.Dot{n.Dot})
			dots = append(dots, n.Dot)
			all, f := store.Kill(s, dots)
			if e != api.OK || f != api.OK {
				t.Fatalf("Kill(%v, %v) has an error: %d, %d", s, dots, e, f)
			}
			less, e := canon.Size(one)
			least, f := canon.Size(all)
			if e != api.OK || f != api.OK || (n.Rune != 0) != (less < size) || less > size || (n.Rune != 0) != (least < last) || least > last {
				t.Fatalf("%v has %d bytes; without node %d there are %d, %d, and without all up to it %d, %d, after %d", s, size, i, less, e, least, f, last)
			}
			last = least
		}
	}
}

// P17.1, P17.3: Size is the number of the bytes of Encode, which are those that Append puts behind others.
func TestEncodeAppendAndSizeAgree(t *testing.T) {
	var joint []byte
	total := 0
	for _, s := range slices.Concat(small(2), states(), noStates(), []api.State{whole(65536, 64), whole(65537, 64)}) {
		own, e := canon.Encode(s)
		size, f := canon.Size(s)
		none, g := canon.Append(nil, s)
		more, h := canon.Append([]byte("before"), s)
		if e == api.OK && string(more) != "before"+string(own) || e != api.OK && more != nil || !bytes.Equal(own, none) || size != len(own) || e != f || e != g || e != h {
			t.Fatalf("of a state with %d nodes Encode has %d bytes, %d, Size is %d, %d, Append to nothing has %d bytes, %d, and Append to some bytes %d, %d", len(s), len(own), e, size, f, len(none), g, len(more), h)
		}
		if next, e := canon.Append(joint, s); e == api.OK && len(own) < 100 {
			if !bytes.HasPrefix(next, joint) || !bytes.HasSuffix(next, own) {
				t.Fatalf("Append of %v, behind %d bytes, has other bytes", s, len(joint))
			}
			joint = next
			total += size
		}
	}
	if len(joint) != total || total < 10000 {
		t.Errorf("there are %d bytes, and not %d", len(joint), total)
	}
}

// everyCall calls every function with bytes, a state and a context.
func everyCall(b []byte, s api.State, c api.Context) {
	canon.Encode(s)
	canon.Append(b, s)
	canon.Size(s)
	canon.Context(c)
}

// someContexts returns contexts that are short, allowed and not.
func someContexts() []api.Context {
	return slices.DeleteFunc(append(contexts(), noContexts()...), func(c api.Context) bool { return len(c.Cloud) > 1000 })
}

// No call changes bytes, a state or a context that was handed to it, nor what lies behind their ends.
func TestArgumentsStayAsTheyAre(t *testing.T) {
	stateRoom, dotRoom, byteRoom := of("7.7 7.6 7 U+0067, 8.8 root 1 -"), dots("63.9 64.9 1.1 0.0 65.65"), bytes.Repeat([]byte{77, 200}, 500)
	list := someContexts()
	for i, s := range append(states(), noStates()...) {
		c := list[i%len(list)]
		before := bytes.Repeat([]byte{9, 200}, i%5)
		b, nodes, vector, cloud := slices.Concat(before, byteRoom), slices.Concat(s, stateRoom), slices.Concat(c.Vector, dotRoom), slices.Concat(c.Cloud, dotRoom)
		everyCall(b[:len(before)], nodes[:len(s)], api.Context{Vector: vector[:len(c.Vector)], Cloud: cloud[:len(c.Cloud)]})
		if !slices.Equal(b, slices.Concat(before, byteRoom)) || !slices.Equal(nodes, slices.Concat(s, stateRoom)) || !slices.Equal(vector, slices.Concat(c.Vector, dotRoom)) || !slices.Equal(cloud, slices.Concat(c.Cloud, dotRoom)) {
			t.Fatalf("of %v, %v and %v calls have made %v, %v, %v and %v", before, s, c, b, nodes, vector, cloud)
		}
	}
}

// overwrite makes something else of bytes, and of the room behind them.
func overwrite(b []byte) {
	for i := range b[:cap(b)] {
		b[:cap(b)][i] = 77
	}
}

// Results share no memory with arguments, or with other results: each of them may be overwritten, with the room behind it.
func TestResultsShareNoMemory(t *testing.T) {
	list := someContexts()
	for i, s := range append(states(), noStates()...) {
		c := list[i%len(list)]
		before := bytes.Repeat([]byte{9, 200}, i%5)
		room := append(slices.Clone(before), 1, 2, 3)
		for _, call := range []func(b []byte) []byte{
			func([]byte) []byte { b, _ := canon.Encode(s); return b },
			func(b []byte) []byte { b, _ = canon.Append(b, s); return b },
			func(b []byte) []byte { b, _ = canon.Append(b, nil); return b },
			func([]byte) []byte { b, _ := canon.Context(c); return b },
		} {
			want := slices.Clone(call(before))
			b := slices.Clone(room)
			first, second := call(b[:len(before)]), call(b[:len(before)])
			overwrite(first)
			if !bytes.Equal(second, want) || !bytes.Equal(b, room) {
				t.Fatalf("with one result another one, or %v, has changed: %v, %v", room, second, b)
			}
			overwrite(b)
			if !bytes.Equal(second, want) || !bytes.Equal(call(before), want) {
				t.Fatalf("with %v the result has changed: %v", room, second)
			}
		}
	}
}

// Nothing depends on earlier calls; nil and empty arguments are equivalent.
func TestEqualCallsHaveEqualResults(t *testing.T) {
	list := someContexts()
	for i, s := range append(states(), noStates()...) {
		c := list[i%len(list)]
		own, e := canon.Append([]byte{1, 2}, s)
		all, f := canon.Context(c)
		for k := range 3 {
			everyCall([]byte{byte(k)}, of(chapter), list[(i+k)%len(list)])
			own2, e2 := canon.Append([]byte{1, 2}, slices.Clone(s))
			all2, f2 := canon.Context(api.Context{Vector: slices.Clone(c.Vector), Cloud: slices.Clone(c.Cloud)})
			if !bytes.Equal(own, own2) || !bytes.Equal(all, all2) || e != e2 || f != f2 {
				t.Fatalf("calls with %v and %v have other results than before", s, c)
			}
		}
	}
	for _, c := range []api.Context{{}, {Vector: api.Vector{}}, {Cloud: []api.Dot{}}, {Vector: api.Vector{}, Cloud: []api.Dot{}}} {
		if b := contextBytes(t, c); !bytes.Equal(b, []byte{0, 0}) {
			t.Errorf("Context(%v) = %v", c, b)
		}
	}
	for _, s := range []api.State{nil, {}} {
		if b := bytesOf(t, s); !bytes.Equal(b, []byte{0, 0}) {
			t.Errorf("Encode(%#v) = %v", s, b)
		}
	}
}

// P1: no call panics, whatever its arguments are.
func TestEveryCallReturns(t *testing.T) {
	list := someContexts()
	for i, s := range append(noStates(), states()...) {
		for k := range 3 {
			everyCall(nil, s, list[(i*7+k)%len(list)])
		}
	}
	for _, c := range list {
		everyCall([]byte{9}, nil, c)
	}
}

// P1: each call ends soon with very many nodes, bytes and dots, allowed or not.
func TestManyNodes(t *testing.T) {
	before := bytes.Repeat([]byte{200}, 1<<24)
	for _, size := range []int{canon.MaxNodes, canon.MaxNodes + 1, 1 << 20} {
		s, c := whole(size, 64), api.Context{Cloud: cloudOf(size)}
		everyCall(before, s, c)
		s[size-1], c.Cloud[size-1] = s[size-2], c.Cloud[size-2]
		everyCall(before, s, c)
	}
	b, e := canon.Append(before, whole(canon.MaxNodes, 64))
	if size, f := canon.Size(whole(canon.MaxNodes, 64)); len(b) != 1<<24+size || !bytes.HasPrefix(b, before) || e != api.OK || f != api.OK {
		t.Errorf("behind %d bytes and %d more there are %d, %d, %d", len(before), size, len(b), e, f)
	}
}
