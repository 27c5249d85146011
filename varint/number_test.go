package varint_test

import (
	"math"
	"testing"

	"redpencil/varint"
)

// edges returns the numbers around each power of two, and some that are spread between them.
func edges() []uint64 {
	l := []uint64{0, math.MaxUint64}
	for bit := range 64 {
		n := uint64(1) << bit
		l = append(l, n-1, n, n+1, n|0x5555555555555555%n)
	}
	return l
}

// P1.1
func TestSize(t *testing.T) {
	for _, c := range []struct {
		n    uint64
		want int
	}{
		{0, 1}, {1, 1}, {127, 1},
		{128, 2}, {300, 2}, {1<<14 - 1, 2},
		{1 << 14, 3}, {1<<21 - 1, 3},
		{1 << 21, 4}, {1<<28 - 1, 4},
		{1 << 28, 5}, {1<<35 - 1, 5},
		{1 << 35, 6}, {1<<42 - 1, 6},
		{1 << 42, 7}, {1<<49 - 1, 7},
		{1 << 49, 8}, {1<<56 - 1, 8},
		{1 << 56, 9}, {1<<63 - 1, 9},
		{1 << 63, 10}, {math.MaxUint64, 10},
	} {
		if got := varint.Size(c.n); got != c.want {
			t.Errorf("Size(%d) = %d, want %d", c.n, got, c.want)
		}
	}
}

// P1.1
func TestSizeIsThatOfTheBytes(t *testing.T) {
	for _, n := range edges() {
		var w varint.Writer
		w.Num(n)
		if got := varint.Size(n); got != w.Len() {
			t.Errorf("Size(%d) = %d, want %d", n, got, w.Len())
		}
	}
}

// P1.1
func TestZigAndZag(t *testing.T) {
	for _, c := range []struct {
		signed int
		n      uint64
	}{
		{0, 0}, {-1, 1}, {1, 2}, {-2, 3}, {2, 4}, {-3, 5}, {-64, 127}, {64, 128},
		{1<<62 - 1, 1<<63 - 2}, {-1 << 62, 1<<63 - 1}, {1 << 62, 1 << 63},
		{math.MaxInt64, math.MaxUint64 - 1}, {math.MinInt64, math.MaxUint64},
	} {
		if got := varint.Zig(c.signed); got != c.n {
			t.Errorf("Zig(%d) = %d, want %d", c.signed, got, c.n)
		}
		if got := varint.Zag(c.n); got != c.signed {
			t.Errorf("Zag(%d) = %d, want %d", c.n, got, c.signed)
		}
	}
}

// P1.5
func TestZigAndZagInvertEachOther(t *testing.T) {
	for _, n := range edges() {
		if got := varint.Zig(varint.Zag(n)); got != n {
			t.Errorf("Zig(Zag(%d)) = %d", n, got)
		}
		if got := varint.Zag(varint.Zig(int(n))); got != int(n) {
			t.Errorf("Zag(Zig(%d)) = %d", int(n), got)
		}
	}
}
