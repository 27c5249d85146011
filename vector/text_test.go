package vector_test

import (
	"slices"
	"strings"
	"testing"

	"redpencil/api"
	"redpencil/vector"
)

// P5.4: the examples of the chapter, and some more.
func TestTextAndParse(t *testing.T) {
	for _, c := range []struct {
		v    api.Vector
		text string
	}{
		{vec(1, 2, 3, 7), "1.2 3.7"}, {nil, "-"}, {api.Vector{}, "-"},
		{vec(1, 1), "1.1"}, {vec(64, 4294967295), "64.4294967295"}, {vec(1, 4294967295, 64, 1), "1.4294967295 64.1"}, {vec(9, 10, 10, 9), "9.10 10.9"}, {vec(2, 3, 10, 1, 20, 300), "2.3 10.1 20.300"}, {vec(1, 3, 2, 2, 3, 1), "1.3 2.2 3.1"},
	} {
		if s, e := vector.Text(c.v); s != c.text || e != api.OK {
			t.Errorf("Text(%v) = %q, %d, want %q", c.v, s, e, c.text)
		}
		if v, e := vector.Parse(c.text); !same(v, e, c.v, api.OK) {
			t.Errorf("Parse(%q) = %v, %d, want %v", c.text, v, e, c.v)
		}
	}
}

// P5.4
func TestWhatHasNoText(t *testing.T) {
	for _, v := range append(wrong(), vec(3, 7, 1, 2), vec(1, 2, 1, 3), vec(1, 2, 1, 2), vec(0, 0), vec(0, 0, 1, 2), vec(1, 2, 0, 0), vec(1, 0), vec(65, 1), vec(1, 4294967296), vec(0, 1), vec(-1, 1), vec(1, -1), vec(1, 2, 2, 0, 3, 7), vec(1, 2, 3, 7, 2, 1)) {
		if s, e := vector.Text(v); s != "" || e != api.ErrArg {
			t.Errorf("Text(%v) = %q, %d", v, s, e)
		}
	}
}

// P5.4: what a vector that is not valid would be written as is no text.
func TestTextsOfManyVectors(t *testing.T) {
	l := slices.Concat(small(), valid(), long(), wrong())
	for _, d := range edgeDots() {
		l = append(l, api.Vector{d}, api.Vector{dotOf(1, 1), d}, api.Vector{d, dotOf(64, 1)})
	}
	for _, v := range l {
		want, err := expectedText(v)
		if s, e := vector.Text(v); s != want || e != err {
			t.Fatalf("Text(%v) = %q, %d, want %q, %d", v, s, e, want, err)
		}
		if err == api.OK {
			if back, e := vector.Parse(want); !same(back, e, v, api.OK) {
				t.Fatalf("Parse(%q) = %v, %d, want %v", want, back, e, v)
			}
		} else if back, e := vector.Parse(written(v)); !same(back, e, nil, api.ErrFormat) {
			t.Fatalf("Parse(%q) = %v, %d", written(v), back, e)
		}
	}
}

// P5.4
func TestWhatIsNoText(t *testing.T) {
	for _, s := range []string{
		// The examples of the chapter.
		"3.7 1.2", "",
		// Replicas that come twice, or out of order, wherever it is.
		"1.2 1.2", "1.2 1.3", "1.3 1.2", "1.2 3.7 1.2", "1.2 3.7 3.8", "1.2 3.7 2.1", "2.1 1.1 3.1", "64.1 1.1",
		// The root is no part of a vector.
		"root", "root 1.2", "1.2 root", "1.2 root 3.7", "root root", "- root", "root -",
		// No dots, but otherwise, or with some.
		"--", "- -", " -", "- ", "-\n", "\n-", "-\x00", "- 1.2", "1.2 -", "-1.2", "1.2-", "1.2 - 3.7", "0", "none", "_", "\u2013", "\u2212", "\u00ad",
		// Other spaces than single ones between the dots.
		" ", "  ", " 1.2", "1.2 ", " 1.2 ", "1.2  3.7", "1.2   3.7", "1.2 3.7 ", " 1.2 3.7", "1.2\t3.7", "1.2\n3.7", "1.2 3.7\n", "1.2\u00a03.7", "1.2\r3.7", "1.2 \t3.7", "1.2\x003.7", "1.2\x0b3.7", "1.2\u20033.7",
		// Other characters between them, or none.
		"1.2,3.7", "1.2, 3.7", "1.2;3.7", "1.2/3.7", "1.2|3.7", "1.2.3.7", "1.23.7", "[1.2 3.7]", "(1.2 3.7)", "1.2 / 3.7", "1.2 and 3.7", "1.2+3.7", "1.2_3.7",
		// Parts that are no texts of dots.
		"1", "1 2", "1.", ".2", ".", "1.2 3", "1.2 3.", "1.2 .7", "1.2 .", "1.2 3.7.1", "1 .2", "1. 2", "01.2", "1.02", "1.2 03.7", "1.2 3.07", "+1.2", "1.+2", "1.-2", "1.2 -3.7", "1.2 +3.7", "0x1.2", "1.2e0", "1_0.1", "1.2 a.b", "a", "1,2", "1.2 3,7", "\u0661.2", "1.2\xff", "\xff", "1.2 \xff",
		// Dots that are not valid.
		"0.0", "0.1", "1.0", "65.1", "1.4294967296", "0.0 1.2", "0.1 1.2", "1.0 3.7", "1.2 3.0", "1.2 65.1", "1.2 3.4294967296", "1.2 3.18446744073709551617", "18446744073709551617.1", "-1.2 1.2", "1.2 2.0 3.7", "1.2 2.4294967296 3.7",
	} {
		if v, e := vector.Parse(s); !same(v, e, nil, api.ErrFormat) {
			t.Errorf("Parse(%q) = %v, %d", s, v, e)
		}
	}
}

// P5.4: the longest texts that there are, and such that are longer, by what could go on and by what could not.
func TestLongTexts(t *testing.T) {
	all := written(highest())
	if v, e := vector.Parse(all); !same(v, e, highest(), api.OK) {
		t.Errorf("Parse of a text of %d bytes has %d dots, %d", len(all), len(v), e)
	}
	const n = 1 << 20
	for _, s := range []string{
		all + " ", " " + all, all + " 65.1", "0.1 " + all, all + " root", all + " 64.4294967295", "1.1 " + all, all + " " + all, all + " -", all + "1", all + "x",
		strings.Repeat(all+" ", 1000), strings.Repeat("1.1 ", n), strings.Repeat("1.1 ", n) + "1.1", strings.Repeat("root ", n), strings.Repeat(" ", n), strings.Repeat("-", n), strings.Repeat("- ", n), strings.Repeat("1", n), strings.Repeat(".", n), "1." + strings.Repeat("1", n), "1.1 2." + strings.Repeat("0", n) + "1",
		strings.Repeat("1.1 2.2 ", n), "1.1 " + strings.Repeat("x", n),
	} {
		if v, e := vector.Parse(s); !same(v, e, nil, api.ErrFormat) {
			t.Errorf("Parse of %d bytes, %.40q, has %d dots, %d", len(s), s, len(v), e)
		}
	}
}

// P5.4: a string that is no text from its beginning on is not split into as many parts as it has.
func TestParseStopsEarly(t *testing.T) {
	s := strings.Repeat("1.1 ", 1<<20)
	var got api.Errno
	if n := testing.AllocsPerRun(5, func() { _, got = vector.Parse(s) }); n > 100 || got != api.ErrFormat {
		t.Errorf("Parse of %d bytes took %v pieces of memory, %d", len(s), n, got)
	}
}

// P5.4: of all short strings of some characters, and of all that begin like a text, just those are texts that some vector has.
func TestShortStringsAreTextsOrNot(t *testing.T) {
	l := []string{"", "1", "6", "1.1", "2.3 ", "1.1 3.", "63.9 ", "1.2 2.3 3.4", "64.429496729"}
	for from, size := 0, 0; size < 4; size++ {
		to := len(l)
		for _, s := range l[from:to] {
			for _, c := range "013456.- +r" {
				l = append(l, s+string(c))
			}
		}
		from = to
	}
	found := 0
	for _, s := range l {
		want, err := expectedParse(s)
		if v, e := vector.Parse(s); !same(v, e, want, err) {
			t.Fatalf("Parse(%q) = %v, %d, want %v, %d", s, v, e, want, err)
		}
		if err == api.OK {
			found++
		}
	}
	if found < 5000 {
		t.Errorf("only %d of %d were texts", found, len(l))
	}
}

// P5.4: each byte, in each place of a text, leaves a text of another vector, or none; so does each byte that is left out or comes in between.
func TestEveryByteOfAText(t *testing.T) {
	found := 0
	check := func(s string) {
		want, err := expectedParse(s)
		if v, e := vector.Parse(s); !same(v, e, want, err) {
			t.Fatalf("Parse(%q) = %v, %d, want %v, %d", s, v, e, want, err)
		}
		if err == api.OK {
			found++
		}
	}
	for _, text := range []string{"-", "1.2 3.7", "12.345 64.4294967295", "7.9 8.9 9.9 10.9"} {
		for at := range len(text) {
			check(text[:at] + text[at+1:])
			for x := range 256 {
				b := string([]byte{byte(x)})
				check(text[:at] + b + text[at+1:])
				check(text[:at] + b + text[at:])
			}
		}
	}
	if found < 300 {
		t.Errorf("only %d were texts", found)
	}
}
