package canon_test

import (
	"bytes"
	"slices"
	"testing"

	"redpencil/api"
	"redpencil/canon"
)

// chapter is the second state of the chapter's examples, chapterBytes its bytes.
const (
	chapter      = "2.3 1.2 70 -, 1.200 2.3 71 U+00E9"
	chapterBytes = "2 2 3 1 2 141 1 1 197 1 2 3 142 1 2 195 169"
)

// P17.1: the chapter's examples, and edge cases of each part, byte by byte.
func TestEncode(t *testing.T) {
	for _, c := range []struct{ state, want string }{
		{"", "0 0"},
		{"1.1 root 1 U+0061", "1 1 1 0 2 1 97"},
		{chapter, chapterBytes},
		// One node, dead.
		{"1.1 root 1 -", "1 1 1 0 3 0"},
		// Runes of one byte to four.
		{"1.1 root 1 U+0001", "1 1 1 0 2 1 1"},
		{"1.1 root 1 U+007F", "1 1 1 0 2 1 127"},
		{"1.1 root 1 U+0080", "1 1 1 0 2 2 194 128"},
		{"1.1 root 1 U+07FF", "1 1 1 0 2 2 223 191"},
		{"1.1 root 1 U+0800", "1 1 1 0 2 3 224 160 128"},
		{"1.1 root 1 U+D7FF", "1 1 1 0 2 3 237 159 191"},
		{"1.1 root 1 U+E000", "1 1 1 0 2 3 238 128 128"},
		{"1.1 root 1 U+FFFD", "1 1 1 0 2 3 239 191 189"},
		{"1.1 root 1 U+FFFF", "1 1 1 0 2 3 239 191 191"},
		{"1.1 root 1 U+10000", "1 1 1 0 2 4 240 144 128 128"},
		{"1.1 root 1 U+10FFFF", "1 1 1 0 2 4 244 143 191 191"},
		// Parents: the root, and with numbers of each length, up to the greatest ones, which may lie behind the node.
		{"2.1 1.127 1 U+0061", "1 2 1 1 127 2 1 97"},
		{"2.1 1.128 1 U+0061", "1 2 1 1 128 1 2 1 97"},
		{"2.1 1.16383 1 U+0061", "1 2 1 1 255 127 2 1 97"},
		{"2.1 1.16384 1 U+0061", "1 2 1 1 128 128 1 2 1 97"},
		{"2.1 64.4294967295 1 -", "1 2 1 64 255 255 255 255 15 3 0"},
		// Times: both sides of a length, and the greatest one, alive and dead.
		{"1.1 root 63 U+0061", "1 1 1 0 126 1 97"},
		{"1.1 root 63 -", "1 1 1 0 127 0"},
		{"1.1 root 64 U+0061", "1 1 1 0 128 1 1 97"},
		{"1.1 root 64 -", "1 1 1 0 129 1 0"},
		{"1.1 root 8191 -", "1 1 1 0 255 127 0"},
		{"1.1 root 8192 U+0061", "1 1 1 0 128 128 1 1 97"},
		{"1.1 root 4611686018427387903 -", "1 1 1 0 255 255 255 255 255 255 255 255 127 0"},
		{"1.1 root 4611686018427387904 U+0061", "1 1 1 0 128 128 128 128 128 128 128 128 128 1 1 97"},
		{"1.1 root 4611686018427387904 -", "1 1 1 0 129 128 128 128 128 128 128 128 128 1 0"},
		// Dots: the greatest one, and counters that are equal, follow on each other, or are far apart.
		{"64.4294967295 root 1 U+0061", "1 64 255 255 255 255 15 0 2 1 97"},
		{"1.5 root 1 U+0061, 64.5 root 1 U+0062", "2 1 5 0 2 64 0 0 2 2 97 98"},
		{"1.5 root 1 U+0061, 1.6 root 1 U+0062", "2 1 5 0 2 1 1 0 2 2 97 98"},
		{"7.5 root 1 U+0061, 1.132 root 1 U+0062", "2 7 5 0 2 1 127 0 2 2 97 98"},
		{"7.5 root 1 U+0061, 1.133 root 1 U+0062", "2 7 5 0 2 1 128 1 0 2 2 97 98"},
		{"1.1 root 1 -, 1.4294967295 root 1 U+0061, 2.4294967295 1.1 2 -", "3 1 1 0 3 1 254 255 255 255 15 0 2 2 0 1 1 5 1 97"},
		{"3.127 root 1 -, 3.129 root 1 -, 3.256 root 1 -, 3.384 root 1 -", "4 3 127 0 3 3 2 0 3 3 127 0 3 3 128 1 0 3 0"},
		// The runes stand in the order of the nodes, without those of dead ones.
		{"1.1 root 1 U+20AC, 2.1 root 1 -, 3.1 root 1 U+0061, 1.2 3.1 2 U+1F600, 3.2 2.1 2 -", "5 1 1 0 2 2 0 0 3 3 0 0 2 1 1 3 1 4 3 0 2 1 5 8 226 130 172 97 240 159 152 128"},
	} {
		got, e := canon.Encode(of(c.state))
		if !bytes.Equal(got, raw(c.want)) || e != api.OK {
			t.Errorf("Encode(%s) = %v, %d, want %s", c.state, got, e, c.want)
		}
	}
}

// P17.1: the chapter's examples, and others.
func TestAppendAndSize(t *testing.T) {
	for _, c := range []struct{ before, state, want string }{
		{"9", "", "9 0 0"},
		{"", "", "0 0"},
		{"", chapter, chapterBytes},
		{"0", "1.1 root 1 U+0061", "0 1 1 1 0 2 1 97"},
		{"0 0", "1.1 root 1 -", "0 0 1 1 1 0 3 0"},
		{"255 128 0 1", "1.1 root 1 -", "255 128 0 1 1 1 1 0 3 0"},
		{chapterBytes, chapter, chapterBytes + " " + chapterBytes},
	} {
		got, e := canon.Append(raw(c.before), of(c.state))
		if !bytes.Equal(got, raw(c.want)) || e != api.OK {
			t.Errorf("Append(%s, %s) = %v, %d, want %s", c.before, c.state, got, e, c.want)
		}
		size := len(raw(c.want)) - len(raw(c.before))
		if n, e := canon.Size(of(c.state)); n != size || e != api.OK {
			t.Errorf("Size(%s) = %d, %d, want %d", c.state, n, e, size)
		}
	}
	if n, e := canon.Size(of(chapter)); n != 17 || e != api.OK {
		t.Errorf("Size(%s) = %d, %d", chapter, n, e)
	}
}

// check compares what Encode, Append and Size return for a state with what they have to return.
func check(t *testing.T, before []byte, s api.State) {
	t.Helper()
	// Of a state with very many nodes only these are shown.
	shown := s[:min(len(s), 5)]
	want, err := expectedBytes(s)
	var behind []byte
	if err == api.OK {
		behind = slices.Concat(before, want)
	}
	if got, e := canon.Encode(s); !bytes.Equal(got, want) || e != err {
		t.Fatalf("Encode(%v, %d nodes) = %v, %d, want %v, %d", shown, len(s), got[:min(len(got), 50)], e, want[:min(len(want), 50)], err)
	}
	if got, e := canon.Append(before, s); !bytes.Equal(got, behind) || e != err {
		t.Fatalf("Append(%v, %v, %d nodes) = %v, %d, want %d", before, shown, len(s), got[:min(len(got), 50)], e, err)
	}
	if got, e := canon.Size(s); got != len(want) || e != err {
		t.Fatalf("Size(%v, %d nodes) = %d, %d, want %d, %d", shown, len(s), got, e, len(want), err)
	}
}

// P17.1
func TestBytesOfStates(t *testing.T) {
	for i, s := range slices.Concat(small(2), states(), long()) {
		check(t, [][]byte{nil, {}, {9}, {0, 0}, raw(chapterBytes)}[i%5], s)
	}
}

// P17.1: states that are no store.
func TestStatesThatAreNoStore(t *testing.T) {
	for _, s := range append(noStates(), of("2.1 root 1 U+0062, 1.1 root 1 U+0061")) {
		for _, before := range [][]byte{nil, {9}} {
			if b, e := canon.Append(before, s); b != nil || e != api.ErrArg {
				t.Fatalf("Append(%v, %v) = %v, %d", before, s, b, e)
			}
		}
		if b, e := canon.Encode(s); b != nil || e != api.ErrArg {
			t.Fatalf("Encode(%v) = %v, %d", s, b, e)
		}
		if n, e := canon.Size(s); n != 0 || e != api.ErrArg {
			t.Fatalf("Size(%v) = %d, %d", s, n, e)
		}
	}
}

// P17.1: as many nodes as there may be, and one more; what is no store is so whether it is too long or not.
func TestTheGreatestNumberOfNodes(t *testing.T) {
	if canon.MaxNodes != 65536 {
		t.Errorf("MaxNodes = %d", canon.MaxNodes)
	}
	s := whole(65537, 64)
	for _, x := range []api.State{s, killed(s), append(slices.Clone(s[:65536]), api.Node{Dot: at(64, 4294967295), Time: 1})} {
		for _, size := range []int{65535, 65536, 65537} {
			check(t, []byte{9}, x[:size])
		}
		if b, e := canon.Encode(x[:65536]); !bytes.HasPrefix(b, raw("128 128 4")) || e != api.OK {
			t.Errorf("Encode of 65536 nodes = %v, %d", b[:min(len(b), 20)], e)
		}
		if b, e := canon.Encode(x); b != nil || e != api.ErrLong {
			t.Errorf("Encode of 65537 nodes = %v, %d", b[:min(len(b), 20)], e)
		}
		if b, e := canon.Append([]byte{9}, x); b != nil || e != api.ErrLong {
			t.Errorf("Append of 65537 nodes = %v, %d", b[:min(len(b), 20)], e)
		}
		if n, e := canon.Size(x); n != 0 || e != api.ErrLong {
			t.Errorf("Size of 65537 nodes = %d, %d", n, e)
		}
	}
	for _, size := range []int{65536, 65537, 70000} {
		for _, place := range []int{0, size / 2, size - 1} {
			bad := whole(size, 64)
			bad[place].Rune = 0xd800
			check(t, nil, bad)
			bad = whole(size, 64)
			bad[place] = bad[(place+size-1)%size]
			check(t, nil, bad)
			if n, e := canon.Size(bad); n != 0 || e != api.ErrArg {
				t.Errorf("Size of %d nodes, one of them twice, = %d, %d", size, n, e)
			}
		}
	}
}
