package index_test

import (
	"math"
	"slices"
	"testing"

	"redpencil/api"
	"redpencil/index"
)

// P12.3: the examples of the chapter, and some more.
func TestBefore(t *testing.T) {
	for _, c := range []struct {
		l, d string
		want int
		err  api.Errno
	}{
		{chapter, "2.2", 2, api.OK}, {chapter, "2.3", 3, api.OK}, {chapter, "3.4", 0, api.ErrNone},
		{chapter, "1.4", 0, api.OK}, {chapter, "1.1", 1, api.OK}, {chapter, "1.2", 2, api.OK}, {chapter, "3.5", 0, api.ErrNone}, {chapter, "3.6", 0, api.ErrNone}, {chapter, "9.9", 0, api.ErrNone}, {chapter, "5.5", 0, api.ErrNone}, {chapter, "root", 0, api.ErrArg},
		{mixed, "1.1", 0, api.OK}, {mixed, "1.2", 0, api.OK}, {mixed, "1.3", 1, api.OK}, {mixed, "1.4", 1, api.OK}, {mixed, "1.5", 2, api.OK}, {mixed, "2.1", 0, api.ErrNone}, {mixed, "2.2", 0, api.ErrNone}, {mixed, "3.3", 0, api.ErrNone}, {mixed, "9.9", 0, api.ErrNone}, {mixed, "3.1", 0, api.ErrNone},
		{"", "1.1", 0, api.ErrNone}, {"", "root", 0, api.ErrArg}, {"1.1 root 1 U+0061", "1.1", 0, api.OK}, {"1.1 root 1 -", "1.1", 0, api.OK}, {"1.1 9.9 1 U+0061", "1.1", 0, api.ErrNone}, {"1.1 9.9 1 -", "1.1", 0, api.ErrNone}, {"1.1 1.2 1 U+0061, 1.2 1.1 1 -", "1.2", 0, api.ErrNone},
		// Many dead ones in a row have the same number before them.
		{"1.1 root 1 -, 1.2 1.1 1 -, 1.3 1.2 1 -", "1.3", 0, api.OK}, {"1.1 root 1 U+0061, 1.2 1.1 1 -, 1.3 1.2 1 -, 1.4 1.3 1 -", "1.2", 1, api.OK}, {"1.1 root 1 U+0061, 1.2 1.1 1 -, 1.3 1.2 1 -, 1.4 1.3 1 -", "1.4", 1, api.OK}, {"1.1 64.4294967295 1 -, 64.4294967295 root 4611686018427387904 U+10FFFF", "1.1", 1, api.OK}, {"1.1 64.4294967295 1 -, 64.4294967295 root 4611686018427387904 U+10FFFF", "64.4294967295", 0, api.OK}, {"1.1 root 5 U+0061, 2.1 root 5 U+20AC, 1.2 root 6 -", "1.1", 1, api.OK},
		{chapter, "65.1", 0, api.ErrArg}, {chapter, "1.0", 0, api.ErrArg}, {chapter, "0.1", 0, api.ErrArg}, {chapter, "1.4294967296", 0, api.ErrArg}, {"", "1.-1", 0, api.ErrArg},
		{"1.2 root 1 U+0061, 1.1 root 1 -", "1.1", 0, api.ErrArg}, {"1.2 root 1 U+0061, 1.1 root 1 -", "9.9", 0, api.ErrArg}, {"1.1 root 1 -, 1.1 root 1 -", "1.1", 0, api.ErrArg}, {"0.1 root 1 -", "0.1", 0, api.ErrArg}, {"1.1 root 0 -", "root", 0, api.ErrArg},
	} {
		if n, e := index.Before(nodes(c.l), dotOf(c.d)); n != c.want || e != c.err {
			t.Errorf("Before(%s, %s) = %d, %d, want %d, %d", c.l, c.d, n, e, c.want, c.err)
		}
	}
}

// P12.3: the examples of the chapter, and some more.
func TestLeft(t *testing.T) {
	for _, c := range []struct {
		l    string
		i    int
		want string
		err  api.Errno
	}{
		{chapter, 0, "root", api.OK}, {chapter, 4, "2.3", api.OK}, {chapter, 5, "root", api.ErrRange}, {"", 0, "root", api.OK},
		{chapter, 1, "1.4", api.OK}, {chapter, 2, "1.1", api.OK}, {chapter, 3, "1.2", api.OK}, {chapter, -1, "root", api.ErrRange}, {chapter, 8, "root", api.ErrRange}, {chapter, math.MaxInt, "root", api.ErrRange}, {chapter, math.MinInt, "root", api.ErrRange},
		// A dead node is not what stands to the left, neither in front nor behind the last one.
		{mixed, 0, "root", api.OK}, {mixed, 1, "1.2", api.OK}, {mixed, 2, "1.4", api.OK}, {mixed, 3, "root", api.ErrRange}, {mixed, -1, "root", api.ErrRange},
		{"", 1, "root", api.ErrRange}, {"", -1, "root", api.ErrRange}, {"1.1 root 1 U+0061", 0, "root", api.OK}, {"1.1 root 1 U+0061", 1, "1.1", api.OK}, {"1.1 root 1 U+0061", 2, "root", api.ErrRange}, {"1.1 root 1 -", 0, "root", api.OK}, {"1.1 root 1 -", 1, "root", api.ErrRange}, {"1.1 9.9 1 U+0061", 0, "root", api.OK}, {"1.1 9.9 1 U+0061", 1, "root", api.ErrRange}, {"1.1 1.2 1 U+0061, 1.2 1.1 1 U+0062", 1, "root", api.ErrRange}, {"64.4294967295 root 4611686018427387904 U+10FFFF", 1, "64.4294967295", api.OK},
		{"1.2 root 1 U+0061, 1.1 root 1 U+0061", 0, "root", api.ErrArg}, {"1.2 root 1 U+0061, 1.1 root 1 U+0061", 1, "root", api.ErrArg}, {"1.2 root 1 U+0061, 1.1 root 1 U+0061", 9, "root", api.ErrArg}, {"1.1 root 1 U+0061, 1.1 root 1 U+0061", 1, "root", api.ErrArg}, {"1.1 root 0 U+0061", -1, "root", api.ErrArg},
	} {
		if d, e := index.Left(nodes(c.l), c.i); d != dotOf(c.want) || e != c.err {
			t.Errorf("Left(%s, %d) = %v, %d, want %s, %d", c.l, c.i, d, e, c.want, c.err)
		}
	}
}

// P12.3: the examples of the chapter, and some more.
func TestDots(t *testing.T) {
	const bad = "1.2 root 1 U+0061, 1.1 root 1 U+0061"
	for _, c := range []struct {
		l        string
		from, to int
		want     string
		err      api.Errno
	}{
		{chapter, 1, 3, "1.1 1.2", api.OK}, {chapter, 4, 4, "", api.OK}, {chapter, 3, 2, "", api.ErrRange},
		{chapter, 0, 0, "", api.OK}, {chapter, 2, 2, "", api.OK}, {chapter, 0, 4, "1.4 1.1 1.2 2.3", api.OK}, {chapter, 0, 1, "1.4", api.OK}, {chapter, 3, 4, "2.3", api.OK}, {chapter, 1, 4, "1.1 1.2 2.3", api.OK}, {chapter, 0, 3, "1.4 1.1 1.2", api.OK},
		{chapter, -1, 2, "", api.ErrRange}, {chapter, -1, -1, "", api.ErrRange}, {chapter, 0, 5, "", api.ErrRange}, {chapter, 5, 5, "", api.ErrRange}, {chapter, 4, 5, "", api.ErrRange}, {chapter, 4, 3, "", api.ErrRange}, {chapter, 1, 0, "", api.ErrRange}, {chapter, 0, -1, "", api.ErrRange}, {chapter, 0, 8, "", api.ErrRange}, {chapter, 5, 4, "", api.ErrRange},
		{chapter, math.MinInt, math.MaxInt, "", api.ErrRange}, {chapter, math.MinInt, 2, "", api.ErrRange}, {chapter, 0, math.MaxInt, "", api.ErrRange}, {chapter, math.MaxInt, math.MaxInt, "", api.ErrRange}, {chapter, math.MinInt, math.MinInt, "", api.ErrRange}, {chapter, math.MaxInt, math.MinInt, "", api.ErrRange}, {chapter, math.MaxInt, 0, "", api.ErrRange},
		{mixed, 0, 2, "1.2 1.4", api.OK}, {mixed, 0, 1, "1.2", api.OK}, {mixed, 1, 2, "1.4", api.OK}, {mixed, 1, 1, "", api.OK}, {mixed, 2, 2, "", api.OK}, {mixed, 0, 3, "", api.ErrRange}, {mixed, 3, 3, "", api.ErrRange},
		{"", 0, 0, "", api.OK}, {"", 0, 1, "", api.ErrRange}, {"", 1, 1, "", api.ErrRange}, {"", -1, 0, "", api.ErrRange}, {"", 1, 0, "", api.ErrRange}, {"1.1 root 1 U+0061", 0, 1, "1.1", api.OK}, {"1.1 root 1 U+0061", 1, 1, "", api.OK}, {"1.1 root 1 -", 0, 0, "", api.OK}, {"1.1 root 1 -", 0, 1, "", api.ErrRange}, {"1.1 9.9 1 U+0061", 0, 0, "", api.OK}, {"1.1 9.9 1 U+0061", 0, 1, "", api.ErrRange}, {"1.1 1.2 1 U+0061, 1.2 1.1 1 U+0062", 0, 0, "", api.OK}, {"1.1 1.2 1 U+0061, 1.2 1.1 1 U+0062", 0, 2, "", api.ErrRange}, {"64.4294967295 root 4611686018427387904 U+10FFFF", 0, 1, "64.4294967295", api.OK},
		{bad, 0, 0, "", api.ErrArg}, {bad, 0, 2, "", api.ErrArg}, {bad, 2, 0, "", api.ErrArg}, {bad, -1, 9, "", api.ErrArg}, {"1.1 root 1 U+0061, 1.1 root 1 U+0061", 0, 1, "", api.ErrArg}, {"1.1 root 0 U+0061", 1, 0, "", api.ErrArg},
	} {
		if l, e := index.Dots(nodes(c.l), c.from, c.to); !slices.Equal(l, dots(c.want)) || e != c.err {
			t.Errorf("Dots(%s, %d, %d) = %v, %d, want %s, %d", c.l, c.from, c.to, l, e, c.want, c.err)
		}
	}
}

// P12.3: with a list that is no store each call fails, and so does Before with a dot that is not valid, also where both apply, or where there are no such nodes.
func TestDotsOfWhatIsNotAllowed(t *testing.T) {
	for _, l := range noStores() {
		for _, i := range indices(l) {
			if d, e := index.Left(l, i); d != root || e != api.ErrArg {
				t.Fatalf("Left(%v, %d) = %v, %d", l, i, d, e)
			}
			for _, to := range []int{math.MinInt, i - 1, i, i + 1, math.MaxInt} {
				if out, e := index.Dots(l, i, to); len(out) != 0 || e != api.ErrArg {
					t.Fatalf("Dots(%v, %d, %d) = %v, %d", l, i, to, out, e)
				}
			}
		}
		for _, d := range append(asked(l), dotsOf(l)...) {
			if n, e := index.Before(l, d); n != 0 || e != api.ErrArg {
				t.Fatalf("Before(%v, %v) = %d, %d", l, d, n, e)
			}
		}
	}
	for _, l := range stores() {
		for _, d := range append(noDots(), root) {
			if n, e := index.Before(l, d); n != 0 || e != api.ErrArg {
				t.Fatalf("Before(%v, %v) = %d, %d", l, d, n, e)
			}
		}
	}
}

// P12.3
func TestDotsOfMany(t *testing.T) {
	seen := map[api.Errno]int{}
	for _, l := range slices.Concat(forests(), stores(), noStores()) {
		for _, d := range asked(l) {
			want, err := expectedBefore(l, d)
			if n, e := index.Before(l, d); n != want || e != err {
				t.Fatalf("Before(%v, %v) = %d, %d, want %d, %d", l, d, n, e, want, err)
			}
			seen[err]++
		}
		for _, i := range indices(l) {
			want, err := expectedLeft(l, i)
			if d, e := index.Left(l, i); d != want || e != err {
				t.Fatalf("Left(%v, %d) = %v, %d, want %v, %d", l, i, d, e, want, err)
			}
			seen[err]++
		}
	}
	for _, e := range []api.Errno{api.OK, api.ErrArg, api.ErrRange, api.ErrNone} {
		if seen[e] < 2000 {
			t.Errorf("the results were %v", seen)
		}
	}
}

// P12.3: all parts, and those that are none.
func TestDotsOfAllParts(t *testing.T) {
	seen := map[api.Errno]int{}
	for at, l := range slices.Concat(forests(), stores(), noStores()) {
		all := indices(l)
		if _, text, _ := expectedText(l); len(l) > 20 || at%3 > 0 {
			all = []int{-1, 0, 1, 2, len(text) - 1, len(text), len(text) + 1}
		}
		for _, from := range all {
			for _, to := range all {
				want, err := expectedDots(l, from, to)
				if out, e := index.Dots(l, from, to); !slices.Equal(out, want) || e != err {
					t.Fatalf("Dots(%v, %d, %d) = %v, %d, want %v, %d", l, from, to, out, e, want, err)
				}
				seen[err]++
			}
		}
	}
	for _, e := range []api.Errno{api.OK, api.ErrArg, api.ErrRange} {
		if seen[e] < 2000 {
			t.Errorf("the results were %v", seen)
		}
	}
}

// P12.3: long texts, one behind the other and beside each other, with dead nodes in between.
func TestDotsOfLongTexts(t *testing.T) {
	const n = 600
	for _, l := range [][]api.Node{chain(n, root), brothers(n, root), grown(n, 0), circle(n)} {
		order, seen := orderOf(l, root), dotsOf(visibleOf(l))
		count := 0
		for at, x := range order {
			if at%19 == 0 {
				if out, e := index.Before(l, x.Dot); out != count || e != api.OK {
					t.Fatalf("before %v stand %d, %d, want %d", x, out, e, count)
				}
			}
			if x.Rune != 0 {
				count++
			}
		}
		for i := 0; i <= len(seen); i += 1 + i/10 {
			left := root
			if i > 0 {
				left = seen[i-1]
			}
			if d, e := index.Left(l, i); d != left || e != api.OK {
				t.Fatalf("left of %d is %v, %d, want %v", i, d, e, left)
			}
			if out, e := index.Dots(l, i/2, i); !slices.Equal(out, seen[i/2:i]) || e != api.OK {
				t.Fatalf("from %d to %d there are %v, %d", i/2, i, out, e)
			}
		}
	}
}
