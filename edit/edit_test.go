package edit_test

import (
	"math"
	"slices"
	"strings"
	"testing"

	"redpencil/api"
	"redpencil/edit"
	"redpencil/shape"
	"redpencil/store"
)

// P15.1: an example of the chapter, and some more: at the beginning, in between, behind the last visible node, among dead nodes and brothers, of no runes, one, and many.
func TestInsert(t *testing.T) {
	for _, c := range []struct {
		s, d       string
		at         int
		l          string
		want, text string
	}{
		{chapter, "2.1", 1, "xy", "2.1 1.1 4 U+0078, 2.2 2.1 5 U+0079", "axyc"},
		{chapter, "2.1", 0, "x", "2.1 root 4 U+0078", "xac"}, {chapter, "2.7", 2, "x", "2.7 1.3 4 U+0078", "acx"}, {chapter, "1.4", 1, "x", "1.4 1.1 4 U+0078", "axc"},
		{chapter, "64.4294967295", 1, "x", "64.4294967295 1.1 4 U+0078", "axc"}, {chapter, "1.4294967294", 1, "xy", "1.4294967294 1.1 4 U+0078, 1.4294967295 1.4294967294 5 U+0079", "axyc"},
		{chapter, "2.1", 0, "", "", "ac"}, {chapter, "2.1", 2, "", "", "ac"}, {chapter, "1.1", 1, "", "", "ac"}, {chapter, "64.4294967295", 1, "", "", "ac"},
		{"", "1.1", 0, "a", "1.1 root 1 U+0061", "a"}, {"", "1.1", 0, "", "", ""}, {"", "5.9", 0, "aé€\U0001f600", "5.9 root 1 U+0061, 5.10 5.9 2 U+00E9, 5.11 5.10 3 U+20AC, 5.12 5.11 4 U+1F600", "aé€\U0001f600"},
		{"1.1 root 1 U+0061", "1.2", 0, "x", "1.2 root 2 U+0078", "xa"}, {"1.1 root 1 U+0061", "1.2", 1, "x", "1.2 1.1 2 U+0078", "ax"}, {"1.1 root 7 -", "1.2", 0, "x", "1.2 root 8 U+0078", "x"},
		// Only dead nodes; dead ones before, between and behind the others; a dead one that is the latest of all.
		{"1.1 root 1 -, 1.2 1.1 2 -, 2.2 root 3 -", "3.1", 0, "xy", "3.1 root 4 U+0078, 3.2 3.1 5 U+0079", "xy"},
		{"1.1 root 1 -, 1.2 1.1 2 U+0062, 1.3 1.2 3 -, 1.4 1.3 4 U+0064, 1.5 1.4 9 -", "2.1", 0, "x", "2.1 root 10 U+0078", "xbd"},
		{"1.1 root 1 -, 1.2 1.1 2 U+0062, 1.3 1.2 3 -, 1.4 1.3 4 U+0064, 1.5 1.4 9 -", "2.1", 1, "x", "2.1 1.2 10 U+0078", "bxd"},
		{"1.1 root 1 -, 1.2 1.1 2 U+0062, 1.3 1.2 3 -, 1.4 1.3 4 U+0064, 1.5 1.4 9 -", "2.1", 2, "x", "2.1 1.4 10 U+0078", "bdx"},
		// Before, between and behind brothers, whose dots are in the opposite order.
		{"1.1 root 2 U+0061, 2.1 root 2 U+0062, 3.1 root 2 U+0063", "1.2", 0, "x", "1.2 root 3 U+0078", "xcba"}, {"1.1 root 2 U+0061, 2.1 root 2 U+0062, 3.1 root 2 U+0063", "1.2", 1, "x", "1.2 3.1 3 U+0078", "cxba"}, {"1.1 root 2 U+0061, 2.1 root 2 U+0062, 3.1 root 2 U+0063", "1.2", 3, "x", "1.2 1.1 3 U+0078", "cbax"},
		// Between the dots of the same replica, and with the greatest times and counters that there are.
		{"2.2 root 1 U+0061, 2.5 root 1 U+0062", "2.3", 1, "xy", "2.3 2.5 2 U+0078, 2.4 2.3 3 U+0079", "bxya"},
		{"1.1 root 4611686018427387902 U+0061", "2.4294967294", 1, "xy", "2.4294967294 1.1 4611686018427387903 U+0078, 2.4294967295 2.4294967294 4611686018427387904 U+0079", "axy"},
		{"1.1 root 4611686018427387904 U+0061", "2.4294967295", 1, "", "", "a"},
		{"1.1 root 1 U+0061", "2.1", 1, "\x01\u07ff\u0800\ud7ff\ue000\ufffd\U0010ffff", "2.1 1.1 2 U+0001, 2.2 2.1 3 U+07FF, 2.3 2.2 4 U+0800, 2.4 2.3 5 U+D7FF, 2.5 2.4 6 U+E000, 2.6 2.5 7 U+FFFD, 2.7 2.6 8 U+10FFFF", "a\x01\u07ff\u0800\ud7ff\ue000\ufffd\U0010ffff"},
	} {
		delta, e := edit.Insert(of(c.s), dotOf(c.d), c.at, []rune(c.l))
		if !slices.Equal(delta, of(c.want)) || e != api.OK {
			t.Errorf("Insert(%s, %s, %d, %q) = %v, %d, want %s", c.s, c.d, c.at, c.l, delta, e, c.want)
		}
		if _, text, e := edit.Apply(of(c.s), delta); string(text) != c.text || e != api.OK {
			t.Errorf("the text after Insert(%s, %s, %d, %q) is %q, %d, want %q", c.s, c.d, c.at, c.l, string(text), e, c.text)
		}
	}
}

// P15.1: the examples of the chapter that are errors, and some more.
func TestInsertErrors(t *testing.T) {
	const latest, before = "1.1 root 4611686018427387904 U+0061", "1.1 root 4611686018427387903 -"
	for _, c := range []struct {
		s    string
		d    api.Dot
		at   int
		l    string
		want api.Errno
	}{
		{chapter, at(2, 1), 3, "x", api.ErrRange}, {chapter, at(1, 1), 0, "x", api.ErrBusy}, {chapter, at(2, 4294967295), 0, "xy", api.ErrExhausted}, {chapter, at(2, 1), 0, "\x00", api.ErrRune},
		{chapter, at(2, 1), -1, "x", api.ErrRange}, {chapter, at(2, 1), 3, "", api.ErrRange}, {chapter, at(2, 1), -1, "", api.ErrRange}, {"", at(2, 1), 1, "x", api.ErrRange}, {"1.1 root 1 -", at(2, 1), 1, "x", api.ErrRange}, {chapter, at(2, 1), math.MaxInt, "x", api.ErrRange}, {chapter, at(2, 1), math.MinInt, "x", api.ErrRange},
		{chapter, api.Dot{}, 0, "x", api.ErrArg}, {chapter, api.Dot{}, 0, "", api.ErrArg}, {"", at(1, 0), 0, "", api.ErrArg}, {chapter, at(65, 1), 0, "x", api.ErrArg}, {chapter, at(1, 4294967296), 0, "x", api.ErrArg},
		{"1.2 root 1 U+0061, 1.1 root 1 U+0062", at(2, 1), 0, "", api.ErrArg}, {"1.1 9.9 1 U+0061", at(2, 1), 0, "x", api.ErrArg}, {"1.1 root 2 U+0061, 1.2 1.1 2 U+0062", at(2, 1), 0, "x", api.ErrArg},
		{chapter, at(2, 4294967294), 0, "xyz", api.ErrExhausted}, {"", at(64, 4294967295), 0, "xy", api.ErrExhausted}, {latest, at(2, 1), 1, "x", api.ErrExhausted}, {before, at(2, 1), 0, "xy", api.ErrExhausted},
		{chapter, at(1, 3), 0, "x", api.ErrBusy}, {chapter, at(1, 2), 0, "x", api.ErrBusy}, {"1.3 root 1 -", at(1, 1), 0, "xyz", api.ErrBusy}, {"1.3 root 1 -", at(1, 2), 0, "xyz", api.ErrBusy}, {"1.3 root 1 -", at(1, 3), 0, "xyz", api.ErrBusy},
	} {
		if delta, e := edit.Insert(of(c.s), c.d, c.at, []rune(c.l)); len(delta) != 0 || e != c.want {
			t.Errorf("Insert(%s, %v, %d, %q) = %v, %d, want %d", c.s, c.d, c.at, c.l, delta, e, c.want)
		}
	}
	// Right before and right behind the dots of the state, and those of another replica.
	for _, d := range []api.Dot{at(1, 1), at(1, 4), at(2, 3)} {
		if delta, e := edit.Insert(of("1.3 root 1 -"), d, 0, []rune("xy")); len(delta) != 2 || e != api.OK {
			t.Errorf("Insert with %v = %v, %d", d, delta, e)
		}
	}
}

// P15.2: the examples of the chapter, and some more: none, one, many and all, at the beginning, in between, at the end, and over dead nodes.
func TestDelete(t *testing.T) {
	const five = "1.1 root 1 -, 1.2 1.1 2 U+0062, 1.3 1.2 3 -, 1.4 1.3 4 U+0064, 1.5 1.4 9 -"
	for _, c := range []struct {
		s          string
		at, n      int
		want, text string
	}{
		{chapter, 1, 1, "1.3 1.2 3 -", "a"},
		{chapter, 0, 1, "1.1 root 1 -", "c"}, {chapter, 0, 2, "1.1 root 1 -, 1.3 1.2 3 -", ""}, {chapter, 0, 0, "", "ac"}, {chapter, 1, 0, "", "ac"}, {chapter, 2, 0, "", "ac"},
		{"", 0, 0, "", ""}, {"1.1 root 1 U+0061", 0, 1, "1.1 root 1 -", ""}, {"1.1 root 1 U+0061", 1, 0, "", "a"}, {"1.1 root 1 -", 0, 0, "", ""}, {"1.1 root 1 -, 1.2 1.1 2 -", 0, 0, "", ""},
		{five, 0, 1, "1.2 1.1 2 -", "d"}, {five, 1, 1, "1.4 1.3 4 -", "b"}, {five, 0, 2, "1.2 1.1 2 -, 1.4 1.3 4 -", ""},
		// What stands first in the text comes last in the state.
		{"1.1 root 2 U+0061, 2.1 root 2 U+0062, 3.1 root 2 U+0063", 0, 2, "2.1 root 2 -, 3.1 root 2 -", "a"}, {"1.1 root 2 U+0061, 2.1 root 2 U+0062, 3.1 root 2 U+0063", 1, 2, "1.1 root 2 -, 2.1 root 2 -", "c"}, {"1.1 root 2 U+0061, 2.1 root 2 U+0062, 3.1 root 2 U+0063", 0, 3, "1.1 root 2 -, 2.1 root 2 -, 3.1 root 2 -", ""},
		{"64.4294967295 root 4611686018427387904 U+10FFFF", 0, 1, "64.4294967295 root 4611686018427387904 -", ""},
	} {
		delta, e := edit.Delete(of(c.s), c.at, c.n)
		if !slices.Equal(delta, of(c.want)) || e != api.OK {
			t.Errorf("Delete(%s, %d, %d) = %v, %d, want %s", c.s, c.at, c.n, delta, e, c.want)
		}
		if _, text, e := edit.Apply(of(c.s), delta); string(text) != c.text || e != api.OK {
			t.Errorf("the text after Delete(%s, %d, %d) is %q, %d, want %q", c.s, c.at, c.n, string(text), e, c.text)
		}
	}
	for _, c := range []struct {
		s     string
		at, n int
		want  api.Errno
	}{
		{chapter, 0, 3, api.ErrRange}, {chapter, 1, 2, api.ErrRange}, {chapter, 2, 1, api.ErrRange}, {chapter, 3, 0, api.ErrRange}, {chapter, 3, -1, api.ErrRange}, {chapter, -1, 1, api.ErrRange}, {chapter, -1, 0, api.ErrRange}, {chapter, 1, -1, api.ErrRange}, {chapter, 0, -1, api.ErrRange}, {"", 0, 1, api.ErrRange}, {"1.1 root 1 -", 0, 1, api.ErrRange},
		{chapter, 1, math.MaxInt, api.ErrRange}, {chapter, math.MaxInt, 1, api.ErrRange}, {chapter, math.MaxInt, math.MaxInt, api.ErrRange}, {chapter, math.MinInt, math.MaxInt, api.ErrRange}, {chapter, math.MinInt, math.MinInt, api.ErrRange}, {chapter, 1, math.MinInt, api.ErrRange}, {chapter, 0, 10001, api.ErrRange},
		{"1.1 9.9 1 U+0061", 0, 0, api.ErrArg}, {"1.1 root 2 U+0061, 1.2 1.1 2 U+0062", 0, 1, api.ErrArg}, {"1.2 root 1 U+0061, 1.1 root 1 U+0062", 5, 5, api.ErrArg},
	} {
		if delta, e := edit.Delete(of(c.s), c.at, c.n); len(delta) != 0 || e != c.want {
			t.Errorf("Delete(%s, %d, %d) = %v, %d, want %d", c.s, c.at, c.n, delta, e, c.want)
		}
	}
}

// P15.2: an example of the chapter, and some more: none by none, some by none, none by some, and all.
func TestReplace(t *testing.T) {
	for _, c := range []struct {
		s, d       string
		at, n      int
		l          string
		want, text string
	}{
		{chapter, "2.1", 0, 2, "z", "1.1 root 1 -, 2.1 root 4 U+007A, 1.3 1.2 3 -", "z"},
		{chapter, "2.1", 1, 0, "", "", "ac"}, {chapter, "1.1", 0, 0, "", "", "ac"}, {chapter, "2.1", 1, 1, "", "1.3 1.2 3 -", "a"}, {chapter, "2.1", 1, 0, "xy", "2.1 1.1 4 U+0078, 2.2 2.1 5 U+0079", "axyc"},
		{chapter, "2.1", 0, 1, "xy", "1.1 root 1 -, 2.1 root 4 U+0078, 2.2 2.1 5 U+0079", "xyc"}, {chapter, "2.9", 1, 1, "c", "1.3 1.2 3 -, 2.9 1.1 4 U+0063", "ac"}, {chapter, "2.9", 2, 0, "x", "2.9 1.3 4 U+0078", "acx"},
		{"", "1.1", 0, 0, "a", "1.1 root 1 U+0061", "a"}, {"", "1.1", 0, 0, "", "", ""}, {"1.1 root 1 -", "1.2", 0, 0, "a", "1.2 root 2 U+0061", "a"}, {"1.1 root 1 U+0061", "1.2", 0, 1, "a", "1.1 root 1 -, 1.2 root 2 U+0061", "a"},
		{"1.1 root 1 U+0061, 1.2 1.1 2 U+0062, 1.3 1.2 3 U+0063", "1.4", 1, 1, "xy", "1.2 1.1 2 -, 1.4 1.1 4 U+0078, 1.5 1.4 5 U+0079", "axyc"},
		{"1.1 root 4611686018427387904 U+0061", "64.4294967295", 0, 1, "", "1.1 root 4611686018427387904 -", ""}, {"1.1 root 4611686018427387903 U+0061", "64.4294967295", 0, 1, "x", "1.1 root 4611686018427387903 -, 64.4294967295 root 4611686018427387904 U+0078", "x"},
	} {
		delta, e := edit.Replace(of(c.s), dotOf(c.d), c.at, c.n, []rune(c.l))
		if !slices.Equal(delta, of(c.want)) || e != api.OK {
			t.Errorf("Replace(%s, %s, %d, %d, %q) = %v, %d, want %s", c.s, c.d, c.at, c.n, c.l, delta, e, c.want)
		}
		if _, text, e := edit.Apply(of(c.s), delta); string(text) != c.text || e != api.OK {
			t.Errorf("the text after Replace(%s, %s, %d, %d, %q) is %q, %d, want %q", c.s, c.d, c.at, c.n, c.l, string(text), e, c.text)
		}
	}
	for _, c := range []struct {
		s     string
		d     api.Dot
		at, n int
		l     string
		want  api.Errno
	}{
		{chapter, api.Dot{}, 0, 0, "", api.ErrArg}, {chapter, at(65, 1), 0, 3, "x", api.ErrArg}, {chapter, at(65, 1), -1, 0, "x", api.ErrArg}, {"1.1 9.9 1 U+0061", at(2, 1), 0, 0, "", api.ErrArg},
		{chapter, at(2, 1), 0, 3, "x", api.ErrRange}, {chapter, at(2, 1), 3, 0, "x", api.ErrRange}, {chapter, at(2, 1), -1, 1, "", api.ErrRange}, {chapter, at(2, 1), 1, -1, "", api.ErrRange}, {chapter, at(2, 1), math.MaxInt, math.MaxInt, "", api.ErrRange}, {chapter, at(2, 1), 1, 2, "\x00", api.ErrRange}, {chapter, at(1, 1), 1, 2, "x", api.ErrRange},
		{chapter, at(2, 1), 0, 2, "x\x00", api.ErrRune}, {chapter, at(2, 4294967295), 0, 2, "xy", api.ErrExhausted}, {"1.1 root 4611686018427387904 U+0061", at(2, 1), 0, 1, "x", api.ErrExhausted}, {chapter, at(1, 3), 1, 1, "x", api.ErrBusy}, {chapter, at(1, 2), 0, 2, "x", api.ErrBusy},
	} {
		if delta, e := edit.Replace(of(c.s), c.d, c.at, c.n, []rune(c.l)); len(delta) != 0 || e != c.want {
			t.Errorf("Replace(%s, %v, %d, %d, %q) = %v, %d, want %d", c.s, c.d, c.at, c.n, c.l, delta, e, c.want)
		}
	}
}

// same fails if one of the three edits of a state has another result than the second reading of the chapter.
func same(t *testing.T, s api.State, d api.Dot, at, n int, l []rune) {
	t.Helper()
	want, err := expectedInsert(s, d, at, l)
	if delta, e := edit.Insert(s, d, at, l); !slices.Equal(delta, want) || e != err {
		t.Fatalf("Insert(%v, %v, %d, %q) = %v, %d, want %v, %d", s, d, at, l, delta, e, want, err)
	}
	want, err = expectedDelete(s, at, n)
	if delta, e := edit.Delete(s, at, n); !slices.Equal(delta, want) || e != err {
		t.Fatalf("Delete(%v, %d, %d) = %v, %d, want %v, %d", s, at, n, delta, e, want, err)
	}
	want, err = expectedReplace(s, d, at, n, l)
	if delta, e := edit.Replace(s, d, at, n, l); !slices.Equal(delta, want) || e != err {
		t.Fatalf("Replace(%v, %v, %d, %d, %q) = %v, %d, want %v, %d", s, d, at, n, l, delta, e, want, err)
	}
}

// P15.1, P15.2: all small stores, well-formed or not, at all indices, with dots that they have and others.
func TestEditsOfSmallStates(t *testing.T) {
	dots := []api.Dot{at(1, 1), at(2, 1), at(3, 1), at(1, 2), at(1, 3), at(9, 4294967295)}
	texts := [][]rune{nil, []rune("x"), []rune("xy"), []rune("x\x00y"), {}}
	well := 0
	for i, s := range small() {
		if !shape.Well(s) {
			same(t, s, dots[i%len(dots)], i%4-1, i/4%3-1, texts[i%len(texts)])
			continue
		}
		well++
		for from := -1; from <= len(s)+1; from++ {
			for n := -1; n <= len(s)+1; n++ {
				k := i + 6 + from + 5*n
				same(t, s, dots[k%len(dots)], from, n, texts[k/3%len(texts)])
			}
		}
	}
	if well < 500 {
		t.Errorf("only %d states were well-formed", well)
	}
}

// P15.1, P15.2: states of all kinds, with all numbers.
func TestEditsOfManyStates(t *testing.T) {
	dots := []api.Dot{at(2, 1), at(64, 4294967295), at(1, 40), at(5, 3), {}, at(3, 4294967293)}
	texts := [][]rune{[]rune("x"), nil, []rune("x\U0010ffff€"), {0xd800}, []rune("xy")}
	for i, s := range states() {
		if !shape.Well(s) {
			t.Fatalf("%v is not well-formed", s)
		}
		all := numbers(s)
		for k, from := range all {
			for m, n := range all {
				same(t, s, dots[(i+k+m)%len(dots)], from, n, texts[(k+m/2)%len(texts)])
			}
		}
	}
}

// P15.1, P15.2: what is no store, or not well-formed, with numbers that are allowed, and with others.
func TestEditsOfStatesThatAreNotWellFormed(t *testing.T) {
	first := len(noStores())
	for i, s := range append(noStores(), notWell()...) {
		if store.Valid(s) != (i >= first) || shape.Well(s) {
			t.Fatalf("%v is a store: %t; it is well-formed: %t", s, store.Valid(s), shape.Well(s))
		}
		for _, n := range []int{-1, 0, 1, 3, 9, math.MaxInt} {
			for _, d := range []api.Dot{at(9, 1), at(1, 1), {}} {
				for _, l := range [][]rune{nil, {'x', 'y'}, {0}, make([]rune, 10001)} {
					a, e := edit.Insert(s, d, n, l)
					b, f := edit.Delete(s, n, n)
					c, g := edit.Replace(s, d, n, 0, l)
					if len(a)+len(b)+len(c) > 0 || e != api.ErrArg || f != api.ErrArg || g != api.ErrArg {
						t.Fatalf("of %v there are %v, %d, and %v, %d, and %v, %d", s, a, e, b, f, c, g)
					}
				}
			}
		}
	}
}

// P15.1, P15.2: dots that are not valid, with and without runes.
func TestEditsWithDotsThatAreNotValid(t *testing.T) {
	for _, s := range states() {
		for _, d := range noDots() {
			for _, l := range [][]rune{nil, {'x'}, {'x', 0}} {
				for _, n := range []int{-1, 0, 1} {
					same(t, s, d, n, n, l)
					if _, e := edit.Insert(s, d, n, l); e != api.ErrArg {
						t.Fatalf("Insert(%v, %v, %d, %q): %d", s, d, n, l, e)
					}
					if _, e := edit.Replace(s, d, n, 1, l); e != api.ErrArg {
						t.Fatalf("Replace(%v, %v, %d, 1, %q): %d", s, d, n, l, e)
					}
				}
			}
		}
	}
}

// P15.1, P15.2: runes that may not be in a text, at each place of a list.
func TestEditsWithRunesThatMayNotBeInAText(t *testing.T) {
	s := of(chapter)
	for _, bad := range noRunes() {
		for size := 1; size <= 5; size++ {
			for place := range size {
				l := []rune("éab€\U0010ffff")[:size]
				l[place] = bad
				a, e := edit.Insert(s, at(2, 1), 1, l)
				b, f := edit.Replace(s, at(2, 1), 0, 2, l)
				if len(a)+len(b) > 0 || e != api.ErrRune || f != api.ErrRune {
					t.Errorf("with %x there are %v, %d, and %v, %d", l, a, e, b, f)
				}
			}
		}
	}
}

// many returns a list of runes of all sizes.
func many(size int) []rune {
	l := make([]rune, size)
	for i := range l {
		l[i] = letter(i + i/3)
	}
	return l
}

// P15.1, P15.2: as many runes as one edit may insert and delete, and one more.
func TestMaxEdit(t *testing.T) {
	if edit.MaxEdit != 10000 {
		t.Errorf("MaxEdit is %d", edit.MaxEdit)
	}
	s := line(10003)
	dead := slices.Clone(s[2:10002])
	for i := range dead {
		dead[i].Rune = 0
	}
	l := many(10001)
	var come api.State
	above := at(1, 2)
	for i, r := range l[:10000] {
		come = append(come, api.Node{Dot: at(2, 20000+i), Parent: above, Time: 10004 + i, Rune: r})
		above = come[i].Dot
	}
	if delta, e := edit.Insert(s, at(2, 20000), 2, l[:10000]); !slices.Equal(delta, come) || e != api.OK {
		t.Errorf("of 10000 runes that were inserted there are %d, %d", len(delta), e)
	}
	if delta, e := edit.Delete(s, 2, 10000); !slices.Equal(delta, dead) || e != api.OK {
		t.Errorf("of 10000 runes that were deleted there are %d, %d", len(delta), e)
	}
	delta, e := edit.Replace(s, at(2, 20000), 2, 10000, l[:10000])
	if !slices.Equal(delta, slices.Concat(dead, come)) || e != api.OK {
		t.Errorf("of 10000 runes that were replaced by as many there are %d, %d", len(delta), e)
	}
	if _, text, e := edit.Apply(s, delta); string(text) != textOf(s[:2])+string(l[:10000])+"€" || e != api.OK {
		t.Errorf("the text after that has %d runes, %d", len(text), e)
	}
	a, e := edit.Insert(s, at(2, 20000), 2, l)
	b, f := edit.Delete(s, 2, 10001)
	if len(a)+len(b) > 0 || e != api.ErrLong || f != api.ErrLong {
		t.Errorf("of 10001 runes there are %d, %d, and %d, %d", len(a), e, len(b), f)
	}
	for _, c := range []struct{ n, come int }{{10001, 0}, {10001, 1}, {0, 10001}, {1, 10001}, {10001, 10001}, {10000, 10001}, {10001, 10000}} {
		if delta, e := edit.Replace(s, at(2, 20000), 2, c.n, l[:c.come]); len(delta) > 0 || e != api.ErrLong {
			t.Errorf("%d runes are replaced by %d: %d, %d", c.n, c.come, len(delta), e)
		}
	}
	// Where as many runes are not there, that comes first.
	if delta, e := edit.Delete(s, 3, 10001); len(delta) > 0 || e != api.ErrRange {
		t.Errorf("of more runes than there are: %d, %d", len(delta), e)
	}
}

// P15.1: the counters and the times of many new nodes end at the greatest ones, or would go beyond; the dot of the first one may be far below.
func TestManyNewDotsAtTheEnd(t *testing.T) {
	l := many(10000)
	late := func(time int) api.State { return api.State{{Dot: at(1, 1), Time: time, Rune: 'a'}} }
	for _, c := range []struct {
		s    api.State
		d    api.Dot
		want api.Errno
	}{
		{late(1), at(1, 4294967295-9999), api.OK}, {late(1), at(1, 4294967295-9998), api.ErrExhausted}, {nil, at(64, 4294967295-9999), api.OK}, {nil, at(64, 4294967295-9998), api.ErrExhausted},
		{late(1<<62 - 10000), at(1, 2), api.OK}, {late(1<<62 - 9999), at(1, 2), api.ErrExhausted}, {late(1 << 62), at(1, 2), api.ErrExhausted}, {late(1<<62 - 10000), at(1, 4294967295-9999), api.OK},
		{api.State{{Dot: at(2, 10000), Time: 1}}, at(2, 1), api.ErrBusy}, {api.State{{Dot: at(2, 10001), Time: 1}}, at(2, 1), api.OK}, {api.State{{Dot: at(3, 10000), Time: 1}}, at(2, 1), api.OK}, {api.State{{Dot: at(2, 77), Time: 1}}, at(2, 78), api.OK}, {api.State{{Dot: at(2, 77), Time: 1}}, at(2, 77), api.ErrBusy}, {api.State{{Dot: at(2, 77), Time: 1}}, at(2, 50), api.ErrBusy},
	} {
		delta, e := edit.Insert(c.s, c.d, 0, l)
		both, f := edit.Replace(c.s, c.d, 0, 0, l)
		if e != c.want || f != c.want || !slices.Equal(delta, both) || e == api.OK && (len(delta) != 10000 || delta[9999].Dot != at(c.d.Replica, c.d.Counter+9999)) || e != api.OK && len(delta) > 0 {
			t.Errorf("with %v in %v there are %d, %d, and %d, %d, want %d", c.d, c.s, len(delta), e, len(both), f, c.want)
		}
	}
}

// wrong returns a call of Replace, or of Insert, in which things are wrong that a text names, and the state and the numbers are as they should be otherwise.
func wrong(what string) (s api.State, d api.Dot, from, n int, l []rune) {
	s, d, from, n, l = line(10002), at(2, 4294967295), 2, 1, []rune("x")
	if strings.Contains(what, "state") {
		s[1].Parent = at(9, 9)
	}
	if strings.Contains(what, "late") {
		s[10001].Time = 1 << 62
	}
	if strings.Contains(what, "busy") {
		s = append(s, api.Node{Dot: d, Time: 1})
	}
	if strings.Contains(what, "exhausted") {
		l = append(l, 'z')
	}
	if strings.Contains(what, "rune") {
		l = append([]rune{0xdc00}, l...)
	}
	if strings.Contains(what, "long") {
		l = append(l, many(10000)...)
	}
	if strings.Contains(what, "many") {
		from, n = 1, 10001
	}
	if strings.Contains(what, "less") {
		n = -1
	}
	if strings.Contains(what, "below") {
		from = -1
	}
	if strings.Contains(what, "beyond") {
		from = 10003
	}
	if strings.Contains(what, "dot") {
		d.Counter++
	}
	return s, d, from, n, l
}

// P15.1, P15.2: where several errors apply, that comes which the chapter lists first.
func TestOrderOfErrors(t *testing.T) {
	order := []struct {
		what string
		e    api.Errno
	}{
		{"state", api.ErrArg}, {"dot", api.ErrArg}, {"below", api.ErrRange}, {"beyond", api.ErrRange}, {"less", api.ErrRange}, {"long", api.ErrLong}, {"many", api.ErrLong}, {"rune", api.ErrRune}, {"exhausted", api.ErrExhausted}, {"late", api.ErrExhausted}, {"busy", api.ErrBusy},
	}
	// Each pair, and each with all that come after it.
	for i, x := range order {
		rest := x.what
		for _, y := range order[i:] {
			rest += " " + y.what
			for _, what := range []string{x.what + " " + y.what, rest} {
				s, d, from, n, l := wrong(what)
				if delta, e := edit.Replace(s, d, from, n, l); len(delta) > 0 || e != x.e {
					t.Errorf("with %q Replace returns %d nodes, %d, want %d", what, len(delta), e, x.e)
				}
				if delta, e := edit.Insert(s, d, from, l); x.what != "less" && x.what != "many" && (len(delta) > 0 || e != x.e) {
					t.Errorf("with %q Insert returns %d nodes, %d, want %d", what, len(delta), e, x.e)
				}
				if delta, e := edit.Delete(s, from, n); x.what == "state" && (len(delta) > 0 || e != x.e) {
					t.Errorf("with %q Delete returns %d nodes, %d, want %d", what, len(delta), e, x.e)
				}
			}
		}
	}
	s, d, from, n, l := wrong("")
	if delta, e := edit.Replace(s, d, from, n, l); len(delta) != 2 || e != api.OK {
		t.Errorf("with nothing wrong Replace returns %v, %d", delta, e)
	}
}
