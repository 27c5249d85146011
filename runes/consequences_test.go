package runes_test

import (
	"slices"
	"testing"

	"redpencil/api"
	"redpencil/runes"
)

// lists returns lists of runes that may be in a text: all of up to two, and a long one.
func lists() [][]rune {
	l := [][]rune{nil, valid()}
	for _, a := range valid() {
		l = append(l, []rune{a})
		for _, b := range valid() {
			l = append(l, []rune{a, b})
		}
	}
	return l
}

// P2.5
func TestDecodeInvertsEncode(t *testing.T) {
	for _, l := range lists() {
		s, e := runes.Encode(l)
		if e != api.OK {
			t.Fatalf("Encode(%x) = %q, %d", l, s, e)
		}
		if back, e := runes.Decode(s); !slices.Equal(back, l) || e != api.OK {
			t.Fatalf("Decode(%q) = %x, %d, want %x", s, back, e, l)
		}
	}
}

// P2.5
func TestEncodeInvertsDecode(t *testing.T) {
	decoded := 0
	for _, s := range strange() {
		l, e := runes.Decode(s)
		if e != api.OK {
			continue
		}
		decoded++
		if back, e := runes.Encode(l); back != s || e != api.OK {
			t.Fatalf("Encode(%x) = %q, %d, want %q", l, back, e, s)
		}
	}
	if decoded < 1000 {
		t.Errorf("only %d strings were decoded", decoded)
	}
}

// P2.5
func TestSizesAreTheBytes(t *testing.T) {
	for _, l := range lists() {
		s, _ := runes.Encode(l)
		sum := 0
		for _, r := range l {
			sum += runes.Size(r)
		}
		if n, e := runes.Len(s); sum != len(s) || n != len(l) || e != api.OK {
			t.Fatalf("%x: sizes %d, %d bytes, %d runes, %d", l, sum, len(s), n, e)
		}
	}
}

// P2.5
func TestNeighbouringPartsAreOne(t *testing.T) {
	s, _ := runes.Encode(valid())
	n, _ := runes.Len(s)
	for from := range n + 1 {
		for to := from; to <= n; to++ {
			whole, e := runes.Cut(s, from, to)
			if e != api.OK {
				t.Fatalf("Cut(%d, %d) = %q, %d", from, to, whole, e)
			}
			for between := from; between <= to; between++ {
				left, _ := runes.Cut(s, from, between)
				right, _ := runes.Cut(s, between, to)
				if left+right != whole {
					t.Fatalf("%q and %q, want %q", left, right, whole)
				}
			}
		}
	}
}

// P1: no call panics, whatever its arguments are.
func TestEveryCallReturns(t *testing.T) {
	for _, s := range strange() {
		runes.ByName(s)
		runes.ByName("U+" + s)
		for from := -1; from < 3; from++ {
			runes.Cut(s, from, from+1)
			runes.Cut(s, from+1, from)
		}
	}
}
