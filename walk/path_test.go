package walk_test

import (
	"slices"
	"testing"

	"redpencil/api"
	"redpencil/walk"
)

// P11.3: the example of the chapter, and some more.
func TestLost(t *testing.T) {
	for _, c := range []struct{ l, want string }{
		{chapter, "3.4 3.5 3.6"},
		{"", ""}, {"1.1 root 1 U+0061", ""}, {"1.1 root 1 -", ""}, {"1.1 9.9 1 U+0061", "1.1"}, {"1.1 9.9 1 -", "1.1"}, {"1.1 root 1 U+0061, 1.2 1.1 2 U+0062", ""}, {"1.1 1.2 2 U+0061, 1.2 root 1 -", ""}, {"64.4294967295 64.4294967294 4611686018427387904 -", "64.4294967295"},
		// What is below a lacking parent, before or behind it in the store.
		{"1.1 9.9 1 U+0061, 1.2 1.1 2 U+0061, 1.3 1.2 3 -, 2.3 root 1 U+0061", "1.1 1.2 1.3"}, {"1.1 1.2 1 U+0061, 2.1 root 1 -, 1.2 1.3 2 U+0061, 1.3 9.9 3 -", "1.1 1.2 1.3"}, {"2.1 9.9 1 -, 10.1 8.9 1 -, 1.2 9.9 1 -", "2.1 10.1 1.2"},
		// Circles of two and of three, and what is below these.
		{"1.1 1.2 1 U+0061, 1.2 1.1 1 U+0062", "1.1 1.2"}, {"1.1 1.2 1 U+0061, 1.2 1.1 1 U+0062, 1.3 1.1 1 U+0061, 1.4 1.3 1 -, 1.5 root 1 -", "1.1 1.2 1.3 1.4"}, {"1.1 1.3 1 -, 1.2 1.1 1 -, 1.3 1.2 1 -, 2.3 1.2 5 -, 3.3 2.3 5 -, 4.3 root 1 -, 5.3 4.3 1 -", "1.1 1.2 1.3 2.3 3.3"}, {"1.1 64.4294967295 1 -, 2.1 root 1 -, 64.4294967295 1.1 1 -", "1.1 64.4294967295"},
	} {
		if l, e := walk.Lost(nodes(c.l)); !slices.Equal(l, dots(c.want)) || e != api.OK {
			t.Errorf("Lost(%s) = %v, %d, want %s", c.l, l, e, c.want)
		}
	}
}

// P11.3: the examples of the chapter, and some more.
func TestPath(t *testing.T) {
	for _, c := range []struct {
		l, d, want string
		err        api.Errno
	}{
		{chapter, "2.3", "1.1 1.2 2.3", api.OK}, {chapter, "3.5", "", api.ErrNone},
		{chapter, "1.1", "1.1", api.OK}, {chapter, "1.4", "1.4", api.OK}, {chapter, "1.2", "1.1 1.2", api.OK}, {chapter, "2.2", "1.1 2.2", api.OK}, {chapter, "3.4", "", api.ErrNone}, {chapter, "3.6", "", api.ErrNone}, {chapter, "9.9", "", api.ErrNone}, {chapter, "5.5", "", api.ErrNone}, {chapter, "2.1", "", api.ErrNone},
		{"1.1 root 1 -", "1.1", "1.1", api.OK}, {"1.1 root 1 -", "2.1", "", api.ErrNone}, {"", "1.1", "", api.ErrNone}, {"1.1 9.9 1 -", "1.1", "", api.ErrNone}, {"1.1 9.9 1 -", "9.9", "", api.ErrNone}, {"1.1 9.9 1 -, 1.2 1.1 1 -", "1.2", "", api.ErrNone}, {"1.1 1.2 1 -, 1.2 1.1 1 -, 1.3 1.2 1 -", "1.3", "", api.ErrNone},
		{"1.1 1.2 9 U+0061, 1.2 1.3 9 -, 1.3 1.4 9 -, 1.4 root 1 U+0062", "1.1", "1.4 1.3 1.2 1.1", api.OK}, {"1.1 1.2 9 U+0061, 1.2 1.3 9 -, 1.3 1.4 9 -, 1.4 root 1 U+0062", "1.2", "1.4 1.3 1.2", api.OK},
		// The way down to one brother is not the one past the others.
		{"1.1 root 9 U+0061, 2.1 root 8 U+0061, 1.2 1.1 1 -, 2.2 1.1 7 -, 1.3 2.1 99 U+0061, 2.3 1.2 50 U+0061", "1.3", "2.1 1.3", api.OK}, {"1.1 root 9 U+0061, 2.1 root 8 U+0061, 1.2 1.1 1 -, 2.2 1.1 7 -, 1.3 2.1 99 U+0061, 2.3 1.2 50 U+0061", "2.1", "2.1", api.OK},
		{"1.1 64.4294967295 1 -, 64.4294967295 root 4611686018427387904 U+10FFFF", "1.1", "64.4294967295 1.1", api.OK}, {"1.1 64.4294967295 1 -, 64.4294967295 root 4611686018427387904 U+10FFFF", "64.4294967295", "64.4294967295", api.OK}, {"64.4294967295 root 1 -", "64.4294967294", "", api.ErrNone},
		{chapter, "root", "", api.ErrArg}, {"", "root", "", api.ErrArg}, {chapter, "65.1", "", api.ErrArg}, {chapter, "1.0", "", api.ErrArg}, {"", "0.1", "", api.ErrArg}, {chapter, "1.4294967296", "", api.ErrArg},
		{"1.2 root 1 -, 1.1 root 1 -", "1.1", "", api.ErrArg}, {"1.2 root 1 -, 1.1 root 1 -", "9.9", "", api.ErrArg}, {"1.1 root 1 -, 1.1 root 1 -", "1.1", "", api.ErrArg}, {"0.1 root 1 -", "0.1", "", api.ErrArg}, {"1.1 root 0 -", "root", "", api.ErrArg},
	} {
		if l, e := walk.Path(nodes(c.l), dotOf(c.d)); !slices.Equal(l, dots(c.want)) || e != c.err {
			t.Errorf("Path(%s, %s) = %v, %d, want %s, %d", c.l, c.d, l, e, c.want, c.err)
		}
	}
}

// P11.3: the examples of the chapter, and some more.
func TestBelow(t *testing.T) {
	for _, c := range []struct {
		l, d, want string
		err        api.Errno
	}{
		{chapter, "1.1", "2.2 1.2 2.3", api.OK}, {chapter, "2.3", "", api.OK}, {chapter, "9.9", "", api.ErrNone},
		{chapter, "root", "1.4 1.1 2.2 1.2 2.3", api.OK}, {chapter, "1.2", "2.3", api.OK}, {chapter, "2.2", "", api.OK}, {chapter, "1.4", "", api.OK}, {chapter, "3.4", "", api.ErrNone}, {chapter, "3.5", "", api.ErrNone}, {chapter, "3.6", "", api.ErrNone}, {chapter, "5.5", "", api.ErrNone},
		// The root is always there.
		{"", "root", "", api.OK}, {"", "1.1", "", api.ErrNone}, {"1.1 9.9 1 -", "root", "", api.OK}, {"1.1 9.9 1 -", "9.9", "", api.ErrNone}, {"1.1 9.9 1 -, 1.2 1.1 1 -", "1.1", "", api.ErrNone}, {"1.1 root 1 -", "root", "1.1", api.OK}, {"1.1 root 1 -", "1.1", "", api.OK}, {"1.1 1.2 1 -, 1.2 1.1 1 -, 1.3 1.2 1 -", "root", "", api.OK}, {"1.1 1.2 1 -, 1.2 1.1 1 -, 1.3 1.2 1 -", "1.2", "", api.ErrNone},
		// No brothers, neither before nor behind.
		{"1.1 root 3 U+0061, 2.1 root 2 U+0061, 3.1 root 1 -, 1.2 1.1 1 -, 2.2 2.1 1 -, 3.2 3.1 1 -, 1.3 2.2 9 -, 2.3 2.1 9 U+0061", "2.1", "2.3 2.2 1.3", api.OK}, {"1.1 root 3 U+0061, 2.1 root 2 U+0061, 3.1 root 1 -, 1.2 1.1 1 -, 2.2 2.1 1 -, 3.2 3.1 1 -", "1.1", "1.2", api.OK}, {"1.1 root 3 U+0061, 2.1 root 2 U+0061, 3.1 root 1 -, 1.2 1.1 1 -, 2.2 2.1 1 -, 3.2 3.1 1 -", "3.1", "3.2", api.OK},
		{"1.1 64.4294967295 1 -, 2.1 1.1 1 U+0061, 1.4294967295 1.1 1 U+0061, 64.4294967295 root 4611686018427387904 U+10FFFF", "64.4294967295", "1.1 1.4294967295 2.1", api.OK}, {"64.4294967295 root 1 -", "64.4294967294", "", api.ErrNone},
		{chapter, "65.1", "", api.ErrArg}, {chapter, "1.0", "", api.ErrArg}, {"", "0.1", "", api.ErrArg}, {"", "1.4294967296", "", api.ErrArg},
		{"1.2 root 1 -, 1.1 root 1 -", "root", "", api.ErrArg}, {"1.2 root 1 -, 1.1 root 1 -", "9.9", "", api.ErrArg}, {"1.1 root 1 -, 1.1 root 1 -", "1.1", "", api.ErrArg}, {"0.1 root 1 -", "0.1", "", api.ErrArg}, {"1.1 root 0 -", "root", "", api.ErrArg},
	} {
		if l, e := walk.Below(nodes(c.l), dotOf(c.d)); !slices.Equal(l, dots(c.want)) || e != c.err {
			t.Errorf("Below(%s, %s) = %v, %d, want %s, %d", c.l, c.d, l, e, c.want, c.err)
		}
	}
}

// P11.3: with a list that is no store each call fails, and so it does with a dot that is not allowed, also where no node could have it.
func TestPathsOfWhatIsNotAllowed(t *testing.T) {
	for _, l := range noStores() {
		if out, e := walk.Lost(l); len(out) != 0 || e != api.ErrArg {
			t.Fatalf("Lost(%v) = %v, %d", l, out, e)
		}
		for _, d := range append(dots("0.0 1.1 9.9 0.1"), l[0].Dot, l[len(l)-1].Dot) {
			if out, e := walk.Path(l, d); len(out) != 0 || e != api.ErrArg {
				t.Fatalf("Path(%v, %v) = %v, %d", l, d, out, e)
			}
			if out, e := walk.Below(l, d); len(out) != 0 || e != api.ErrArg {
				t.Fatalf("Below(%v, %v) = %v, %d", l, d, out, e)
			}
		}
	}
	for _, l := range stores() {
		for _, d := range noDots() {
			if out, e := walk.Path(l, d); len(out) != 0 || e != api.ErrArg {
				t.Fatalf("Path(%v, %v) = %v, %d", l, d, out, e)
			}
			if out, e := walk.Below(l, d); len(out) != 0 || e != api.ErrArg {
				t.Fatalf("Below(%v, %v) = %v, %d", l, d, out, e)
			}
		}
		if out, e := walk.Path(l, root); len(out) != 0 || e != api.ErrArg {
			t.Fatalf("Path(%v, root) = %v, %d", l, out, e)
		}
	}
}

// P11.3
func TestPathsOfMany(t *testing.T) {
	seen := map[api.Errno]int{}
	for _, l := range slices.Concat(forests(), stores(), noStores()) {
		want, err := expectedLost(l)
		if out, e := walk.Lost(l); !slices.Equal(out, want) || e != err {
			t.Fatalf("Lost(%v) = %v, %d, want %v, %d", l, out, e, want, err)
		}
		for _, d := range asked(l) {
			want, err := expectedPath(l, d)
			if out, e := walk.Path(l, d); !slices.Equal(out, want) || e != err {
				t.Fatalf("Path(%v, %v) = %v, %d, want %v, %d", l, d, out, e, want, err)
			}
			seen[err]++
			want, err = expectedBelow(l, d)
			if out, e := walk.Below(l, d); !slices.Equal(out, want) || e != err {
				t.Fatalf("Below(%v, %v) = %v, %d, want %v, %d", l, d, out, e, want, err)
			}
			seen[err]++
		}
	}
	if seen[api.OK] < 2000 || seen[api.ErrNone] < 2000 || seen[api.ErrArg] < 2000 {
		t.Errorf("the results were %v", seen)
	}
}

// P11.3: chains of some hundreds of nodes, many brothers, and long circles with what is below them.
func TestPathsOfLongChainsAndManyBrothers(t *testing.T) {
	const n = 400
	l := chain(n, root)
	for at := 0; at < n; at += 57 {
		if out, e := walk.Path(l, l[at].Dot); !slices.Equal(out, dotsOf(l[:at+1])) || e != api.OK {
			t.Errorf("the path to %d in a chain is %v, %d", at, out, e)
		}
		if out, e := walk.Below(l, l[at].Dot); !slices.Equal(out, dotsOf(l[at+1:])) || e != api.OK {
			t.Errorf("below %d in a chain are %v, %d", at, out, e)
		}
	}
	b := brothers(n, root)
	for at := 0; at < n; at += 57 {
		path, e := walk.Path(b, b[at].Dot)
		below, f := walk.Below(b, b[at].Dot)
		if !slices.Equal(path, []api.Dot{b[at].Dot}) || e != api.OK || len(below) != 0 || f != api.OK {
			t.Errorf("of the brother %d: %v, %d, %v, %d", at, path, e, below, f)
		}
	}
	for _, gone := range [][]api.Node{chain(n, dotOf("9.999")), brothers(n, dotOf("9.999")), circle(n), circle(2), circle(3)} {
		if out, e := walk.Lost(gone); !slices.Equal(out, dotsOf(gone)) || e != api.OK {
			t.Errorf("lost are %v, %d", out, e)
		}
		for at := 0; at < len(gone); at += 57 {
			path, e := walk.Path(gone, gone[at].Dot)
			below, f := walk.Below(gone, gone[at].Dot)
			if len(path) != 0 || e != api.ErrNone || len(below) != 0 || f != api.ErrNone {
				t.Errorf("of the lost node %d: %v, %d, %v, %d", at, path, e, below, f)
			}
		}
		if out, e := walk.Below(gone, root); len(out) != 0 || e != api.OK {
			t.Errorf("below the root are %v, %d", out, e)
		}
	}
}
