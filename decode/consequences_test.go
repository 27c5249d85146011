package decode_test

import (
	"bytes"
	"slices"
	"testing"

	"redpencil/api"
	"redpencil/canon"
	"redpencil/decode"
)

// manyStates returns states of all kinds, and of all sizes.
func manyStates() []api.State {
	return slices.Concat(small(2), states(), long(), []api.State{whole(65536, 64), killed(whole(65536, 64))})
}

// P18.3: State inverts layer 17's Encode, and Prefix its Append.
func TestStateInvertsEncode(t *testing.T) {
	for _, s := range manyStates() {
		p, e := canon.Encode(s)
		if e != api.OK {
			t.Fatalf("Encode of %d nodes has the error %d", len(s), e)
		}
		if got, e := decode.State(p); !slices.Equal(got, s) || e != api.OK {
			t.Fatalf("State(%v) = %d nodes, %d, want %d", start(p), len(got), e, len(s))
		}
		both, e := canon.Append(p, s)
		if e != api.OK {
			t.Fatalf("Append of %d nodes has the error %d", len(s), e)
		}
		first, n, e := decode.Prefix(both)
		if !slices.Equal(first, s) || n != len(p) || e != api.OK {
			t.Fatalf("Prefix(%v) = %d nodes, %d, %d, want %d nodes, %d", start(both), len(first), n, e, len(s), len(p))
		}
		if second, e := decode.State(both[n:]); !slices.Equal(second, s) || e != api.OK {
			t.Fatalf("State(%v) = %d nodes, %d, want %d", start(both[n:]), len(second), e, len(s))
		}
	}
}

// P18.3: the same for contexts.
func TestContextInvertsContext(t *testing.T) {
	for _, c := range contexts() {
		p, e := canon.Context(c)
		if e != api.OK {
			t.Fatalf("canon.Context of %d and %d dots has the error %d", len(c.Vector), len(c.Cloud), e)
		}
		if got, n, e := decode.Context(p); !equalContexts(got, c) || n != len(p) || e != api.OK {
			t.Fatalf("Context(%v) = %d and %d dots, %d, %d", start(p), len(got.Vector), len(got.Cloud), n, e)
		}
	}
}

// canonical checks that what is accepted of bytes has just these bytes again, and reports whether something was.
func canonical(t *testing.T, p []byte) bool {
	t.Helper()
	s, e := decode.State(p)
	first, n, f := decode.Prefix(p)
	if own, g := canon.Encode(s); e == api.OK && (!bytes.Equal(own, p) || g != api.OK) {
		t.Fatalf("State(%v) has the bytes %v, %d", start(p), start(own), g)
	}
	if own, g := canon.Encode(first); f == api.OK && (!bytes.Equal(own, p[:n]) || g != api.OK) {
		t.Fatalf("Prefix(%v) has the bytes %v, %d", start(p), start(own), g)
	}
	if e == api.OK && (f != api.OK || n != len(p) || !slices.Equal(s, first)) || f == api.OK && n == len(p) && e != api.OK {
		t.Fatalf("of %v State has %v, %d, and Prefix %v, %d, %d", start(p), start(s), e, start(first), n, f)
	}
	c, n, g := decode.Context(p)
	if own, h := canon.Context(c); g == api.OK && (!bytes.Equal(own, p[:n]) || h != api.OK) {
		t.Fatalf("Context(%v) has the bytes %v, %d", start(p), start(own), h)
	}
	return f == api.OK || g == api.OK
}

// P18.3, P0.6: what is accepted is encoded to the same bytes again.
func TestWhatIsAcceptedIsCanonical(t *testing.T) {
	found := 0
	by := chance{3}
	all := someBytes()
	for _, p := range all {
		for place := range p {
			for change := range 256 {
				other := slices.Clone(p)
				other[place] ^= byte(change)
				if change != 0 && by.below(4) > 0 {
					continue
				}
				if canonical(t, slices.Concat(other, all[by.below(len(all))][:1])) || canonical(t, other) {
					found++
				}
			}
		}
	}
	if found < 10000 {
		t.Errorf("only %d were accepted", found)
	}
}

// P18.3: no beginning of a state's bytes, but for all of them, is the bytes of a state, or begins with those of one.
func TestBeginningsOfStates(t *testing.T) {
	for _, s := range slices.Concat(small(2), states(), []api.State{whole(300, 7), part(whole(300, 64), 3)}) {
		p := written(s)
		for size := range len(p) {
			if got, e := decode.State(p[:size]); got != nil || e != api.ErrMalformed {
				t.Fatalf("State(%v), %d of %d bytes, = %v, %d", start(p[:size]), size, len(p), start(got), e)
			}
			if got, n, e := decode.Prefix(p[:size]); got != nil || n != 0 || e != api.ErrMalformed {
				t.Fatalf("Prefix(%v), %d of %d bytes, = %v, %d, %d", start(p[:size]), size, len(p), start(got), n, e)
			}
		}
	}
	p := written(whole(65536, 64))
	for size := 0; size < len(p); size += 1 + len(p)/50 {
		refused(t, p[:size])
	}
	refused(t, p[:len(p)-1])
}

// P18.3: no beginning of a context's bytes, but for all of them, begins with those of a context.
// (That of a state's bytes may: those of the state 1 1 2 0 9 0 begin with 1 1 2 0, and these are a context's, as the chapter's example has it.)
func TestBeginningsOfContexts(t *testing.T) {
	for _, c := range contexts() {
		p := writtenContext(c)
		for size := 0; size < len(p); size += 1 + size/300 {
			if c, n, e := decode.Context(p[:size]); c.Vector != nil || c.Cloud != nil || n != 0 || e != api.ErrMalformed {
				t.Fatalf("Context(%v), %d of %d bytes, = %v, %d, %d", start(p[:size]), size, len(p), c.Vector, n, e)
			}
		}
		refusedContext(t, p[:len(p)-1])
	}
	taken(t, raw("1 1 2 0 9 0"), of("1.2 root 4 -"))
	takenContext(t, raw("1 1 2 0"), ctx("1.2 / -"))
}

// P18.3: what stands behind the bytes of a state, or of a context, does not matter, whatever bytes these are, and however many.
func TestWhatStandsBehindDoesNotMatter(t *testing.T) {
	for i, s := range states() {
		p := written(s)
		for b := range 256 {
			if i%10 != 0 && b%50 != 0 {
				continue
			}
			all := slices.Concat(p, bytes.Repeat([]byte{byte(b)}, 1+i%15))
			if got, n, e := decode.Prefix(all); !slices.Equal(got, s) || n != len(p) || e != api.OK {
				t.Fatalf("Prefix(%v) = %d nodes, %d, %d, want %d nodes, %d", start(all), len(got), n, e, len(s), len(p))
			}
			if got, e := decode.State(all); got != nil || e != api.ErrMalformed {
				t.Fatalf("State(%v) = %v, %d", start(all), start(got), e)
			}
		}
	}
	for i, c := range contexts() {
		p := writtenContext(c)
		for b := range 256 {
			if i%10 != 0 && b%50 != 0 || len(p) > 1000 && b > 0 {
				continue
			}
			all := slices.Concat(p, bytes.Repeat([]byte{byte(b)}, 1+i%15))
			if got, n, e := decode.Context(all); !equalContexts(got, c) || n != len(p) || e != api.OK {
				t.Fatalf("Context(%v) = %d and %d dots, %d, %d", start(all), len(got.Vector), len(got.Cloud), n, e)
			}
		}
	}
}

// P18.3: states that stand one after the other are read again, one by one.
func TestManyStatesInARow(t *testing.T) {
	var all []byte
	list := slices.DeleteFunc(states(), func(s api.State) bool { return len(s) > 10 })
	for _, s := range list {
		all = append(all, written(s)...)
	}
	for i, s := range list {
		got, n, e := decode.Prefix(all)
		if !slices.Equal(got, s) || e != api.OK {
			t.Fatalf("state %d is %v, %d, want %v", i, got, e, s)
		}
		all = all[n:]
	}
	if len(all) != 0 || len(list) < 1000 {
		t.Errorf("behind %d states there are %v", len(list), start(all))
	}
}

// everyCall calls every function with bytes.
func everyCall(p []byte) {
	decode.State(p)
	decode.Prefix(p)
	decode.Context(p)
}

// No call changes the bytes that were handed to it, nor what lies behind their end; what lies there does not matter.
func TestBytesStayAsTheyAre(t *testing.T) {
	for i, p := range someBytes() {
		for size := range len(p) + 1 {
			room := slices.Concat(p[:size], bytes.Repeat([]byte{77, 200}, 50))
			if i%2 == 0 {
				room = slices.Concat(p, p)
			}
			before := slices.Clone(room)
			everyCall(room[:size])
			if !bytes.Equal(room, before) {
				t.Fatalf("of %v calls have made %v", before, room)
			}
			check(t, room[:size])
		}
	}
}

// Results share no memory with the bytes, or with other results: each of them may be overwritten, with the room behind it.
func TestResultsShareNoMemory(t *testing.T) {
	junk := api.Node{Dot: at(7, 7), Parent: at(7, 6), Time: 7, Rune: 'j'}
	spoil := func(l []api.Node) {
		for i := range l[:cap(l)] {
			l[:cap(l)][i] = junk
		}
	}
	spoilDots := func(l []api.Dot) {
		for i := range l[:cap(l)] {
			l[:cap(l)][i] = junk.Dot
		}
	}
	for _, s := range states() {
		p := slices.Concat(written(s), raw("1 2 3"))
		own := slices.Clone(p)
		size := len(p) - 3
		first, _, _ := decode.Prefix(p)
		second, _ := decode.State(p[:size:size])
		third, _ := decode.State(p[:size])
		spoil(first)
		if !slices.Equal(second, s) || !bytes.Equal(p, own) {
			t.Fatalf("with one result another one, or the bytes %v, have changed: %v, %v", own, second, p)
		}
		spoil(second)
		clear(p[:cap(p)])
		if !slices.Equal(third, s) {
			t.Fatalf("with the bytes %v the result has changed: %v", own, third)
		}
	}
	for _, c := range contexts() {
		p := writtenContext(c)
		own := slices.Clone(p)
		first, _, _ := decode.Context(p)
		second, _, _ := decode.Context(p)
		third, _, _ := decode.Context(p)
		spoilDots(first.Vector)
		if !slices.Equal(first.Cloud, c.Cloud) || !equalContexts(second, c) || !bytes.Equal(p, own) {
			t.Fatalf("with a vector its cloud, another context, or the bytes have changed: %v", start(own))
		}
		spoilDots(second.Cloud)
		clear(p[:cap(p)])
		if !slices.Equal(second.Vector, c.Vector) || !equalContexts(third, c) {
			t.Fatalf("with a cloud its vector, or with the bytes another context, has changed: %v", start(own))
		}
	}
}

// Nothing depends on earlier calls; bytes that are nil and no bytes are the same.
func TestEqualCallsHaveEqualResults(t *testing.T) {
	all := someBytes()
	for i, p := range all {
		for k := range 3 {
			everyCall(all[(i*7+k)%len(all)])
			everyCall(p[:len(p)-k%len(p)])
			check(t, slices.Clone(p))
		}
	}
	for _, p := range [][]byte{nil, {}, make([]byte, 0, 5)} {
		refused(t, p)
		refusedContext(t, p)
	}
}

// P1: each call ends soon with very many bytes, whatever they are.
func TestVeryManyBytes(t *testing.T) {
	for b := range 256 {
		everyCall(bytes.Repeat([]byte{byte(b)}, 1<<18))
	}
	for _, p := range [][]byte{{128}, {255}, {0, 0}, {1}, {1, 2}, {128, 128, 4, 1}, {1, 1, 1, 0, 2}} {
		everyCall(bytes.Repeat(p, 1<<20))
	}
	large := bytes.Repeat([]byte{200}, 1<<24)
	p := written(whole(65536, 64))
	if s, n, e := decode.Prefix(slices.Concat(p, large)); len(s) != 65536 || n != len(p) || e != api.OK {
		t.Errorf("Prefix has %d nodes, %d, %d", len(s), n, e)
	}
	if s, e := decode.State(slices.Concat(p, large)); s != nil || e != api.ErrMalformed {
		t.Errorf("State has %d nodes, %d", len(s), e)
	}
	// All that the bytes say is there, but it is not right.
	wide := slices.Concat(raw("1 1 1 0 2"), number(1<<24), large)
	refused(t, wide)
	refused(t, slices.Concat(raw("0"), number(1<<24), large))
	refused(t, slices.Concat(raw("128 128 4"), bytes.Repeat(raw("1 0 0 2"), 65536), number(65536), large))
	refusedContext(t, slices.Concat(raw("128 128 4"), bytes.Repeat(raw("1 0"), 65536), large))
}
