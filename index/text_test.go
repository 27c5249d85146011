package index_test

import (
	"slices"
	"testing"

	"redpencil/api"
	"redpencil/index"
)

// texts are stores, each with its text.
var texts = []struct{ l, text string }{
	{chapter, "eabd"},
	{"", ""}, {"1.1 root 1 U+0061", "a"}, {"1.1 root 1 -", ""}, {"1.1 9.9 1 U+0061", ""}, {"1.1 9.9 1 -", ""}, {"64.4294967295 root 4611686018427387904 U+10FFFF", "\U0010ffff"}, {"64.4294967295 64.4294967294 1 U+0061", ""},
	// Dead ones before, among and behind others, and none but these.
	{"1.1 root 1 U+0061, 1.2 1.1 2 U+0062, 1.3 1.2 3 U+0063", "abc"}, {"1.1 root 1 -, 1.2 1.1 2 U+0062, 1.3 1.2 3 U+0063", "bc"}, {"1.1 root 1 U+0061, 1.2 1.1 2 -, 1.3 1.2 3 U+0063", "ac"}, {"1.1 root 1 U+0061, 1.2 1.1 2 U+0062, 1.3 1.2 3 -", "ab"}, {"1.1 root 1 -, 1.2 1.1 2 U+0062, 1.3 1.2 3 -", "b"}, {"1.1 root 1 -, 1.2 1.1 2 -, 1.3 1.2 3 -", ""}, {"1.1 root 1 -, 2.1 root 1 -, 3.1 root 2 U+0078", "x"}, {"1.1 root 1 U+0078, 2.1 root 1 -, 3.1 root 2 -", "x"},
	// Brothers by their times and dots, and what is below these.
	{"1.1 root 1 U+0061, 2.1 root 1 U+0062, 3.1 root 2 U+0063", "cba"}, {"1.1 root 3 U+0061, 2.1 root 2 U+0062, 3.1 root 1 U+0063", "abc"}, {"9.1 root 5 U+0061, 10.1 root 5 U+0062, 1.9 root 5 U+0063, 1.10 root 5 U+0064", "dcba"}, {"1.1 root 9 U+0061, 2.1 root 8 U+0062, 1.2 1.1 1 U+0063, 2.2 1.1 7 U+0064, 1.3 2.1 99 U+0065, 2.3 1.2 50 U+0066", "adcfbe"}, {"1.1 root 9 U+0061, 2.1 root 8 -, 1.2 1.1 1 -, 2.2 1.1 7 U+0064, 1.3 2.1 99 U+0065, 2.3 1.2 50 U+0066", "adfe"}, {"1.1 1.2 9 U+0061, 1.2 1.3 9 -, 1.3 1.4 9 U+0063, 1.4 root 1 U+0062", "bca"},
	// Characters of one to four bytes, the least and the greatest ones of each.
	{"1.1 root 1 U+0001, 1.2 1.1 2 U+007F, 1.3 1.2 3 U+0080, 1.4 1.3 4 U+07FF, 1.5 1.4 5 U+0800, 1.6 1.5 6 U+FFFF, 1.7 1.6 7 U+10000, 1.8 1.7 8 U+10FFFF", "\u0001\u007f\u0080\u07ff\u0800\uffff\U00010000\U0010ffff"}, {"1.1 root 1 U+D7FF, 1.2 1.1 2 U+E000, 1.3 1.2 3 U+FFFD, 1.4 1.3 4 U+FEFF, 1.5 1.4 5 U+000A, 1.6 1.5 6 U+000D, 1.7 1.6 7 U+0020", "\ud7ff\ue000\ufffd\ufeff\n\r "}, {"1.1 root 1 U+0061, 1.2 1.1 2 U+00E9, 1.3 1.2 3 U+20AC, 1.4 1.3 4 U+1F600", "aé€😀"}, {"1.1 root 1 U+0065, 1.2 1.1 2 U+0301, 1.3 1.2 3 U+0065, 1.4 1.3 4 U+0301", "e\u0301e\u0301"},
	// What is lost is not in the text, whether it lives or not: below lacking parents, in circles, and below these.
	{"1.1 9.9 1 U+0061, 1.2 1.1 2 U+0062, 1.3 1.2 3 U+0063, 2.3 root 1 U+0064", "d"}, {"1.1 1.2 1 U+0061, 1.2 1.1 1 U+0062", ""}, {"1.1 1.2 1 U+0061, 1.2 1.1 1 U+0062, 1.3 1.1 1 U+0063, 1.4 1.3 1 U+0064, 1.5 root 1 U+0065", "e"}, {"1.1 1.3 1 U+0061, 1.2 1.1 1 -, 1.3 1.2 1 -, 2.3 1.2 5 U+0062, 3.3 2.3 5 U+0063, 4.3 root 1 U+0064, 5.3 4.3 1 U+0065", "de"},
	// What is below a dead node is not dead by that.
	{"1.1 root 1 -, 1.2 1.1 2 U+0062, 2.2 1.1 2 U+0063, 1.3 2.2 3 U+0064", "cdb"},
}

// P12.1: the examples of the chapter, and some more.
func TestTextRunesAndLen(t *testing.T) {
	for _, c := range texts {
		l, want := nodes(c.l), []rune(c.text)
		if s, e := index.Text(l); s != c.text || e != api.OK {
			t.Errorf("Text(%s) = %q, %d, want %q", c.l, s, e, c.text)
		}
		if r, e := index.Runes(l); !slices.Equal(r, want) || e != api.OK {
			t.Errorf("Runes(%s) = %x, %d, want %x", c.l, r, e, want)
		}
		if n, e := index.Len(l); n != len(want) || e != api.OK {
			t.Errorf("Len(%s) = %d, %d, want %d", c.l, n, e, len(want))
		}
	}
}

// P12.1: a list that is no store has no text.
func TestTextsOfWhatIsNoStore(t *testing.T) {
	for _, l := range noStores() {
		if s, e := index.Text(l); s != "" || e != api.ErrArg {
			t.Errorf("Text(%v) = %q, %d", l, s, e)
		}
		if r, e := index.Runes(l); len(r) != 0 || e != api.ErrArg {
			t.Errorf("Runes(%v) = %x, %d", l, r, e)
		}
		if n, e := index.Len(l); n != 0 || e != api.ErrArg {
			t.Errorf("Len(%v) = %d, %d", l, n, e)
		}
	}
	for _, none := range [][]api.Node{nil, {}} {
		s, e := index.Text(none)
		r, f := index.Runes(none)
		n, g := index.Len(none)
		if s != "" || len(r) != 0 || n != 0 || e != api.OK || f != api.OK || g != api.OK {
			t.Errorf("of none: %q, %d, %x, %d, %d, %d", s, e, r, f, n, g)
		}
	}
}

// P12.1
func TestTextsOfMany(t *testing.T) {
	sizes := map[int]int{}
	long := [][]api.Node{chain(300, root), chain(300, dotOf("9.999")), brothers(300, root), brothers(300, dotOf("9.999")), circle(100), circle(2)}
	for _, l := range slices.Concat(forests(), stores(), noStores(), long) {
		text, want, err := expectedText(l)
		if s, e := index.Text(l); s != text || e != err {
			t.Fatalf("Text(%v) = %q, %d, want %q, %d", l, s, e, text, err)
		}
		if r, e := index.Runes(l); !slices.Equal(r, want) || e != err {
			t.Fatalf("Runes(%v) = %x, %d, want %x, %d", l, r, e, want, err)
		}
		if n, e := index.Len(l); n != len(want) || e != err {
			t.Fatalf("Len(%v) = %d, %d, want %d, %d", l, n, e, len(want), err)
		}
		sizes[len(want)]++
	}
	for n := range 4 {
		if sizes[n] < 20 {
			t.Errorf("only %d texts have %d characters", sizes[n], n)
		}
	}
}

// P12.1: thousands of runes of one to four bytes, in one text.
func TestManyRunes(t *testing.T) {
	var l []api.Node
	var want []rune
	text := ""
	for r := rune(1); r <= api.MaxRune; r += 1 + r/0x200 {
		if r < 0xd800 || r > 0xdfff {
			l = append(l, api.Node{Dot: api.Dot{Replica: 1, Counter: len(l) + 1}, Time: api.MaxTime - len(l), Rune: r})
			want = append(want, r)
			text += bytesOf(r)
		}
	}
	out, e := index.Runes(l)
	s, f := index.Text(l)
	n, g := index.Len(l)
	if !slices.Equal(out, want) || s != text || n != len(want) || e != api.OK || f != api.OK || g != api.OK {
		t.Errorf("of %d runes there are %d, %d, %d bytes, %d, and the length %d, %d", len(want), len(out), e, len(s), f, n, g)
	}
	if len(want) < 4000 || len(text) < 12000 {
		t.Errorf("there are only %d runes in %d bytes", len(want), len(text))
	}
}
