package node_test

import (
	"slices"
	"strings"
	"testing"

	"redpencil/api"
	"redpencil/node"
)

// P9.4: the examples of the chapter, and some more.
func TestTextAndParse(t *testing.T) {
	for _, c := range []struct {
		n    api.Node
		text string
	}{
		{api.Node{Dot: api.Dot{Replica: 3, Counter: 7}, Parent: api.Dot{Replica: 1, Counter: 2}, Time: 5, Rune: 0x41}, "3.7 1.2 5 U+0041"},
		{api.Node{Dot: api.Dot{Replica: 3, Counter: 7}, Time: 5}, "3.7 root 5 -"},
		{api.Node{Dot: api.Dot{Replica: 1, Counter: 1}, Time: 1, Rune: 0x61}, "1.1 root 1 U+0061"},
		{api.Node{Dot: api.Dot{Replica: 1, Counter: 3}, Parent: api.Dot{Replica: 9, Counter: 9}, Time: 7}, "1.3 9.9 7 -"},
		{api.Node{Dot: api.Dot{Replica: 10, Counter: 20}, Parent: api.Dot{Replica: 20, Counter: 10}, Time: 100, Rune: 0x20ac}, "10.20 20.10 100 U+20AC"},
		{api.Node{Dot: api.Dot{Replica: 64, Counter: 4294967295}, Parent: api.Dot{Replica: 64, Counter: 4294967294}, Time: 4611686018427387904, Rune: 0x10ffff}, "64.4294967295 64.4294967294 4611686018427387904 U+10FFFF"},
		{api.Node{Dot: api.Dot{Replica: 1, Counter: 1}, Parent: api.Dot{Replica: 64, Counter: 4294967295}, Time: 4611686018427387903, Rune: 1}, "1.1 64.4294967295 4611686018427387903 U+0001"},
		// Runes that are written otherwise than they look.
		{api.Node{Dot: api.Dot{Replica: 1, Counter: 1}, Time: 1, Rune: 0x2d}, "1.1 root 1 U+002D"},
		{api.Node{Dot: api.Dot{Replica: 1, Counter: 1}, Time: 1, Rune: 0x20}, "1.1 root 1 U+0020"},
		{api.Node{Dot: api.Dot{Replica: 1, Counter: 1}, Time: 1, Rune: 0x30}, "1.1 root 1 U+0030"},
		{api.Node{Dot: api.Dot{Replica: 1, Counter: 1}, Time: 1, Rune: 0xd7ff}, "1.1 root 1 U+D7FF"},
		{api.Node{Dot: api.Dot{Replica: 1, Counter: 1}, Time: 1, Rune: 0xe000}, "1.1 root 1 U+E000"},
		{api.Node{Dot: api.Dot{Replica: 1, Counter: 1}, Time: 1, Rune: 0xabcde}, "1.1 root 1 U+ABCDE"},
	} {
		if s, e := node.Text(c.n); s != c.text || e != api.OK {
			t.Errorf("Text(%v) = %q, %d, want %q", c.n, s, e, c.text)
		}
		if n, e := node.Parse(c.text); n != c.n || e != api.OK {
			t.Errorf("Parse(%q) = %v, %d, want %v", c.text, n, e, c.n)
		}
	}
}

// P9.4: what a node that is not valid would be written as is no text either.
func TestWhatHasNoText(t *testing.T) {
	for _, n := range wrong() {
		if s, e := node.Text(n); s != "" || e != api.ErrArg {
			t.Errorf("Text(%v) = %q, %d", n, s, e)
		}
		if back, e := node.Parse(written(n)); back != (api.Node{}) || e != api.ErrFormat {
			t.Errorf("Parse(%q) = %v, %d", written(n), back, e)
		}
	}
}

// P9.4
func TestTextsAtTheEdges(t *testing.T) {
	texts := 0
	for _, n := range slices.Concat(edges(), few(), rest(3000)) {
		want, err := expected(n)
		if s, e := node.Text(n); s != want || e != err {
			t.Fatalf("Text(%v) = %q, %d, want %q, %d", n, s, e, want, err)
		}
		back, parseErr := n, api.OK
		if err != api.OK {
			back, parseErr = api.Node{}, api.ErrFormat
		} else {
			texts++
		}
		if got, e := node.Parse(written(n)); got != back || e != parseErr {
			t.Fatalf("Parse(%q) = %v, %d, want %v, %d", written(n), got, e, back, parseErr)
		}
	}
	if texts < 3000 {
		t.Errorf("only %d nodes had a text", texts)
	}
}

// noText checks that a string is not the text of a node.
func noText(t *testing.T, s string) {
	t.Helper()
	if n, e := node.Parse(s); n != (api.Node{}) || e != api.ErrFormat {
		t.Errorf("Parse(%.60q) = %v, %d", s, n, e)
	}
}

// P9.4
func TestWhatIsNoText(t *testing.T) {
	for _, s := range []string{
		// The examples of the chapter.
		"root root 5 -", "3.7 root 05 -", "3.7 root 5",
		// Parts that are lacking, empty or too many.
		"", " ", "  ", "   ", "    ", "-", "root", "3.7", "3.7 root", "3.7 1.2 5", "3.7 5 -", "root 5 -", "1.2 5 U+0041", "3.7 root -", "3.7 root 5 ", "3.7 root  -", "3.7  5 -", " root 5 -", "3.7 root 5 - -", "3.7 root 5 - ", " 3.7 root 5 -", "3.7 root 5 -  ", "3.7 root 5 U+0041 U+0042", "3.7 root root 5 -", "3.7 root 5 5 -", "3.7 3.7 root 5 -", "3.7 root 5 U+0041 -", "3.7 root 5 - 3.7 root 5 -", "3.7 root 5 -\n3.7 root 5 -",
		// Parts in another order.
		"root 3.7 5 -", "3.7 5 root -", "3.7 root - 5", "5 3.7 root -", "- 5 root 3.7", "3.7 1.2 U+0041 5",
		// Nodes that are not valid.
		"3.7 3.7 5 U+0041", "3.7 3.7 5 -", "64.4294967295 64.4294967295 1 -", "root 3.7 5 U+0041", "root root 5 U+0041", "0.0 root 5 -", "3.7 0.0 5 -", "3.7 0.1 5 -", "3.7 1.0 5 -", "0.1 root 5 -", "1.0 root 5 -", "65.7 root 5 -", "3.7 65.7 5 -", "3.4294967296 root 5 -", "3.7 3.4294967296 5 -",
		"3.7 root 0 -", "3.7 1.2 0 U+0041", "3.7 root 4611686018427387905 -", "3.7 root 9223372036854775807 -", "3.7 root 9223372036854775808 -", "3.7 root 18446744073709551615 -", "3.7 root 18446744073709551616 -", "3.7 root 18446744073709551621 -", "3.7 root 99999999999999999999999999 -", "3.7 root " + strings.Repeat("9", 100000) + " -",
		"3.7 root 5 U+0000", "3.7 root 5 U+D800", "3.7 root 5 U+DFFF", "3.7 root 5 U+110000", "3.7 root 5 U+7FFFFFFF", "3.7 root 5 U+FFFFFFFF", "3.7 root 5 U+100000041", "3.7 root 5 U+10000000000000041",
		// Numbers that are written otherwise.
		"03.7 root 5 -", "3.07 root 5 -", "3.7 01.2 5 -", "3.7 1.02 5 -", "3.7 root 00 -", "3.7 root 005 -", "3.7 root " + strings.Repeat("0", 100000) + "5 -", "3.7 00.00 5 -", "3.7 root +5 -", "3.7 root -5 -", "3.7 root -0 -", "3.7 root +0 -", "+3.7 root 5 -", "-3.7 root 5 -", "3.+7 root 5 -", "3.7 +1.2 5 -", "3.7 -root 5 -", "3.7 +root 5 -",
		"3.7 root 5.0 -", "3.7 root 5. -", "3.7 root .5 -", "3.7 root 5e0 -", "3.7 root 0x5 -", "3.7 root 0b101 -", "3.7 root 5_0 -", "3.7 root 1,000 -", "3.7 root a -", "3.7 root 5a -", "3.7 root five -", "3.7 root root -", "3.7 root - -", "3.7 root 1.1 -", "3.7 root 5\u0665 -", "3.7 root \uff15 -", "3 1.2 5 -", "3. root 5 -", ".7 root 5 -", "3.7.1 root 5 -", "37 root 5 -", "3.7 12 5 -", "3.7 0 5 -", "3.7 . 5 -",
		// Runes that are written otherwise.
		"3.7 root 5 u+0041", "3.7 root 5 U+004a", "3.7 root 5 U+20ac", "3.7 root 5 U+41", "3.7 root 5 U+041", "3.7 root 5 U+00041", "3.7 root 5 U+01F600", "3.7 root 5 U+", "3.7 root 5 U", "3.7 root 5 +", "3.7 root 5 0041", "3.7 root 5 A", "3.7 root 5 65", "3.7 root 5 0", "3.7 root 5 U0041", "3.7 root 5 U-0041", "3.7 root 5 U++041", "3.7 root 5 U+-041", "3.7 root 5 U+0x41", "3.7 root 5 U+004G", "3.7 root 5 U+00 41",
		"3.7 root 5 --", "3.7 root 5 -0", "3.7 root 5 -U+0041", "3.7 root 5 U+0041-", "3.7 root 5 _", "3.7 root 5 \u2013", "3.7 root 5 \u2212", "3.7 root 5 \u00ad", "3.7 root 5 dead", "3.7 root 5 root", "3.7 root 5 U+" + strings.Repeat("0", 100000) + "41",
		// The root, written otherwise.
		"3.7 Root 5 -", "3.7 ROOT 5 -", "3.7 roo 5 -", "3.7 roott 5 -", "3.7 r 5 -", "3.7 - 5 -",
		// Other spaces, or none.
		"3.7  root 5 -", "3.7 root  5 -", "3.7 root 5  -", "3.7\troot 5 -", "3.7 root\t5 -", "3.7 root 5\t-", "3.7\nroot\n5\n-", "3.7 root 5 -\n", "3.7 root 5 -\r", "\n3.7 root 5 -", "\t3.7 root 5 -", "3.7\vroot 5 -", "3.7\froot 5 -", "3.7\u00a0root 5 -", "3.7 root\u20035 -", "3.7 root 5\u3000-", "3.7root5-", "3.7root 5 -", "3.7 root5 -", "3.7 root 5-", "3.7 1.25 -", "3.7,root,5,-", "3.7_root_5_-", "3.7 . root 5 -",
		strings.Repeat(" ", 100000), strings.Repeat("3.7 root 5 - ", 10000), "3.7 root 5 -" + strings.Repeat(" ", 100000), strings.Repeat(" ", 100000) + "3.7 root 5 -",
		// Other bytes around, in between, or in place of some, also such that are no UTF-8.
		"(3.7 root 5 -)", "{3.7 root 5 -}", "\"3.7 root 5 -\"", "3.7 root 5 -.", "3.7 root 5 -;", "3.7 root 5 -\x00", "\x003.7 root 5 -", "3.7 root \x005 -", "\ufeff3.7 root 5 -", "3.7 root 5 -\ufeff", "3.7\u2024 root 5 -", "\uff13.7 root 5 -", "3.7 root 5 U+\uff10041", "3.7 root 5 \u20ac",
		"\xff", "\xff\xfe \xff \xff \xff", "3.7 root 5 \xff", "3.7 root \xff -", "3.7 \xff 5 -", "\xff root 5 -", "3.7 root 5 -\xff", "3.7\xc0\xa0root 5 -", "3.7 root 5 \xc0\xad", "3.7 root 5 U+0041\x80", "3.7 root 5 U+004\xc1",
	} {
		noText(t, s)
	}
}

// P9.4: each choice of parts that are right or not, with each way to put them together.
func TestPartsThatAreRightOrNot(t *testing.T) {
	own := []string{"3.7", "1.1", "64.4294967295", "root", "0.0", "65.1", "3.07", "3", ""}
	parents := []string{"root", "1.1", "3.7", "64.4294967295", "1.4294967296", "01.1", "Root", "0.0", "-", ""}
	times := []string{"1", "5", "10", "4611686018427387904", "4611686018427387905", "9223372036854775808", "0", "-1", "+1", "05", "1.1", "x", "-", ""}
	names := []string{"-", "U+0041", "U+0001", "U+10FFFF", "U+0000", "U+D800", "U+110000", "U+41", "u+0041", "U+004a", "--", "0", "A", ""}
	right := 0
	for _, a := range own {
		for _, b := range parents {
			for _, c := range times {
				for _, d := range names {
					for _, s := range []string{a + " " + b + " " + c + " " + d, a + " " + b + " " + c + d, a + " " + b + "  " + c + " " + d, a + " " + b + " " + c + " " + d + " ", b + " " + a + " " + c + " " + d} {
						want, err := read(s)
						if n, e := node.Parse(s); n != want || e != err {
							t.Fatalf("Parse(%q) = %v, %d, want %v, %d", s, n, e, want, err)
						}
						if err == api.OK {
							right++
						}
					}
				}
			}
		}
	}
	if right < 200 {
		t.Errorf("only %d strings were texts", right)
	}
}

// P9.4: each byte, in each place of a text, more or in place of another one, or one byte less.
func TestEveryByteOfAText(t *testing.T) {
	for _, text := range []string{"12.345 6.78 90 U+00A1", "3.7 root 5 -", "64.4294967295 1.1 4611686018427387904 U+10FFFF"} {
		for at := range len(text) + 1 {
			var l []string
			for x := range 256 {
				l = append(l, text[:at]+string([]byte{byte(x)})+text[at:])
				if at < len(text) {
					l = append(l, text[:at]+string([]byte{byte(x)})+text[at+1:])
				}
			}
			if at < len(text) {
				l = append(l, text[:at]+text[at+1:])
			}
			for _, s := range append(l, text[:at], text[at:]) {
				want, err := read(s)
				if n, e := node.Parse(s); n != want || e != err {
					t.Fatalf("Parse(%q) = %v, %d, want %v, %d", s, n, e, want, err)
				}
			}
		}
	}
}
