package index_test

import (
	"math"
	"slices"
	"testing"

	"redpencil/api"
	"redpencil/index"
)

// mixed is a store with dead nodes before the first visible one, among these, and behind the last one, and with some that are lost: the order of its tree is 1.1 (dead), 1.2 (a), 1.3 (dead), 1.4 (b), 1.5 (dead); 2.1, 2.2 (dead) and 3.3 are lost.
const mixed = "1.1 root 1 -, 2.1 9.9 1 U+0063, 1.2 1.1 2 U+0061, 2.2 2.1 1 -, 1.3 1.2 3 -, 3.3 2.2 4 U+0064, 1.4 1.3 4 U+0062, 1.5 1.4 5 -"

// P12.2: the examples of the chapter, and some more.
func TestAt(t *testing.T) {
	for _, c := range []struct {
		l    string
		i    int
		want string
		err  api.Errno
	}{
		{chapter, 2, "1.2 1.1 2 U+0062", api.OK}, {chapter, 4, "", api.ErrRange},
		{chapter, 0, "1.4 root 4 U+0065", api.OK}, {chapter, 1, "1.1 root 1 U+0061", api.OK}, {chapter, 3, "2.3 1.2 3 U+0064", api.OK}, {chapter, -1, "", api.ErrRange}, {chapter, 5, "", api.ErrRange}, {chapter, 8, "", api.ErrRange}, {chapter, math.MaxInt, "", api.ErrRange}, {chapter, math.MinInt, "", api.ErrRange},
		{mixed, 0, "1.2 1.1 2 U+0061", api.OK}, {mixed, 1, "1.4 1.3 4 U+0062", api.OK}, {mixed, 2, "", api.ErrRange}, {mixed, -1, "", api.ErrRange},
		{"", 0, "", api.ErrRange}, {"", -1, "", api.ErrRange}, {"", 1, "", api.ErrRange}, {"1.1 root 1 U+0061", 0, "1.1 root 1 U+0061", api.OK}, {"1.1 root 1 U+0061", 1, "", api.ErrRange}, {"1.1 root 1 -", 0, "", api.ErrRange}, {"1.1 9.9 1 U+0061", 0, "", api.ErrRange}, {"1.1 1.2 1 U+0061, 1.2 1.1 1 U+0062", 0, "", api.ErrRange},
		{"64.4294967295 root 4611686018427387904 U+10FFFF", 0, "64.4294967295 root 4611686018427387904 U+10FFFF", api.OK}, {"1.1 root 5 U+0061, 2.1 root 5 U+20AC, 1.2 root 6 -", 0, "2.1 root 5 U+20AC", api.OK}, {"1.1 root 5 U+0061, 2.1 root 5 U+20AC, 1.2 root 6 -", 1, "1.1 root 5 U+0061", api.OK}, {"1.1 root 5 U+0061, 2.1 root 5 U+20AC, 1.2 root 6 -", 2, "", api.ErrRange},
		{"1.2 root 1 U+0061, 1.1 root 1 U+0061", 0, "", api.ErrArg}, {"1.2 root 1 U+0061, 1.1 root 1 U+0061", 7, "", api.ErrArg}, {"1.1 root 1 U+0061, 1.1 root 1 U+0061", 0, "", api.ErrArg}, {"1.1 root 0 U+0061", 0, "", api.ErrArg}, {"1.1 root 0 U+0061", -1, "", api.ErrArg},
	} {
		var want api.Node
		if c.want != "" {
			want = of(c.want)
		}
		if n, e := index.At(nodes(c.l), c.i); n != want || e != c.err {
			t.Errorf("At(%s, %d) = %v, %d, want %v, %d", c.l, c.i, n, e, want, c.err)
		}
	}
}

// P12.2: the examples of the chapter, and some more.
func TestOf(t *testing.T) {
	for _, c := range []struct {
		l, d string
		want int
		err  api.Errno
	}{
		{chapter, "1.2", 2, api.OK}, {chapter, "2.2", 0, api.ErrNone}, {chapter, "3.4", 0, api.ErrNone}, {chapter, "root", 0, api.ErrArg},
		{chapter, "1.4", 0, api.OK}, {chapter, "1.1", 1, api.OK}, {chapter, "2.3", 3, api.OK}, {chapter, "3.5", 0, api.ErrNone}, {chapter, "3.6", 0, api.ErrNone}, {chapter, "9.9", 0, api.ErrNone}, {chapter, "5.5", 0, api.ErrNone}, {chapter, "4.1", 0, api.ErrNone}, {chapter, "1.3", 0, api.ErrNone}, {chapter, "64.4294967295", 0, api.ErrNone},
		{mixed, "1.1", 0, api.ErrNone}, {mixed, "1.2", 0, api.OK}, {mixed, "1.3", 0, api.ErrNone}, {mixed, "1.4", 1, api.OK}, {mixed, "1.5", 0, api.ErrNone}, {mixed, "2.1", 0, api.ErrNone}, {mixed, "2.2", 0, api.ErrNone}, {mixed, "3.3", 0, api.ErrNone}, {mixed, "9.9", 0, api.ErrNone},
		{"", "1.1", 0, api.ErrNone}, {"", "root", 0, api.ErrArg}, {"1.1 root 1 U+0061", "1.1", 0, api.OK}, {"1.1 root 1 -", "1.1", 0, api.ErrNone}, {"1.1 9.9 1 U+0061", "1.1", 0, api.ErrNone}, {"1.1 1.2 1 U+0061, 1.2 1.1 1 U+0062", "1.1", 0, api.ErrNone},
		{"1.1 64.4294967295 1 U+0062, 64.4294967295 root 4611686018427387904 U+10FFFF", "64.4294967295", 0, api.OK}, {"1.1 64.4294967295 1 U+0062, 64.4294967295 root 4611686018427387904 U+10FFFF", "1.1", 1, api.OK}, {"1.1 64.4294967295 1 U+0062, 64.4294967295 root 4611686018427387904 U+10FFFF", "64.4294967294", 0, api.ErrNone}, {"1.1 root 5 U+0061, 2.1 root 5 U+20AC, 1.2 root 6 -", "1.1", 1, api.OK},
		{chapter, "65.1", 0, api.ErrArg}, {chapter, "1.0", 0, api.ErrArg}, {chapter, "0.1", 0, api.ErrArg}, {chapter, "1.4294967296", 0, api.ErrArg}, {chapter, "-1.1", 0, api.ErrArg}, {"", "0.1", 0, api.ErrArg},
		{"1.2 root 1 U+0061, 1.1 root 1 U+0061", "1.1", 0, api.ErrArg}, {"1.2 root 1 U+0061, 1.1 root 1 U+0061", "9.9", 0, api.ErrArg}, {"1.1 root 1 U+0061, 1.1 root 1 U+0061", "1.1", 0, api.ErrArg}, {"0.1 root 1 U+0061", "0.1", 0, api.ErrArg}, {"1.1 root 0 U+0061", "root", 0, api.ErrArg},
	} {
		if n, e := index.Of(nodes(c.l), dotOf(c.d)); n != c.want || e != c.err {
			t.Errorf("Of(%s, %s) = %d, %d, want %d, %d", c.l, c.d, n, e, c.want, c.err)
		}
	}
}

// P12.2: with a list that is no store each call fails, and so does Of with a dot that is not valid, also where both apply, or where there are no such nodes.
func TestIndicesOfWhatIsNotAllowed(t *testing.T) {
	for _, l := range noStores() {
		for _, i := range indices(l) {
			if n, e := index.At(l, i); n != (api.Node{}) || e != api.ErrArg {
				t.Fatalf("At(%v, %d) = %v, %d", l, i, n, e)
			}
		}
		for _, d := range append(asked(l), dotsOf(l)...) {
			if n, e := index.Of(l, d); n != 0 || e != api.ErrArg {
				t.Fatalf("Of(%v, %v) = %d, %d", l, d, n, e)
			}
		}
	}
	for _, l := range stores() {
		for _, d := range append(noDots(), root) {
			if n, e := index.Of(l, d); n != 0 || e != api.ErrArg {
				t.Fatalf("Of(%v, %v) = %d, %d", l, d, n, e)
			}
		}
	}
}

// P12.2
func TestIndicesOfMany(t *testing.T) {
	seen := map[api.Errno]int{}
	for _, l := range slices.Concat(forests(), stores(), noStores()) {
		for _, i := range indices(l) {
			want, err := expectedAt(l, i)
			if n, e := index.At(l, i); n != want || e != err {
				t.Fatalf("At(%v, %d) = %v, %d, want %v, %d", l, i, n, e, want, err)
			}
			seen[err]++
		}
		for _, d := range asked(l) {
			want, err := expectedOf(l, d)
			if n, e := index.Of(l, d); n != want || e != err {
				t.Fatalf("Of(%v, %v) = %d, %d, want %d, %d", l, d, n, e, want, err)
			}
			seen[err]++
		}
	}
	for _, e := range []api.Errno{api.OK, api.ErrArg, api.ErrRange, api.ErrNone} {
		if seen[e] < 2000 {
			t.Errorf("the results were %v", seen)
		}
	}
}

// P12.2: long texts, one behind the other and beside each other.
func TestIndicesOfLongTexts(t *testing.T) {
	const n = 600
	for _, l := range [][]api.Node{chain(n, root), brothers(n, root), grown(n, 0), circle(n)} {
		seen := visibleOf(l)
		for i := 0; i < len(seen); i += 1 + i/20 {
			at, e := index.At(l, i)
			back, f := index.Of(l, seen[i].Dot)
			if at != seen[i] || e != api.OK || back != i || f != api.OK {
				t.Fatalf("at %d of %d stands %v, %d, and it is found at %d, %d", i, len(seen), at, e, back, f)
			}
		}
		for _, i := range []int{-1, len(seen), len(l) + 1} {
			if at, e := index.At(l, i); at != (api.Node{}) || e != api.ErrRange {
				t.Errorf("at %d of %d stands %v, %d", i, len(seen), at, e)
			}
		}
	}
}
