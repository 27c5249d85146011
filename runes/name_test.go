package runes_test

import (
	"fmt"
	"strings"
	"testing"

	"redpencil/api"
	"redpencil/runes"
)

// P2.4: the examples of the chapter, and some more.
func TestNameAndByName(t *testing.T) {
	for _, c := range []struct {
		r    rune
		name string
	}{
		{1, "U+0001"}, {0x0a, "U+000A"}, {0x61, "U+0061"}, {0xe9, "U+00E9"}, {0xfff, "U+0FFF"}, {0x1000, "U+1000"}, {0x20ac, "U+20AC"},
		{0xd7ff, "U+D7FF"}, {0xe000, "U+E000"}, {0xabcd, "U+ABCD"}, {0xffff, "U+FFFF"}, {0x10000, "U+10000"}, {0x1f600, "U+1F600"},
		{0xfffff, "U+FFFFF"}, {0x100000, "U+100000"}, {0x10ffff, "U+10FFFF"},
	} {
		if s, e := runes.Name(c.r); s != c.name || e != api.OK {
			t.Errorf("Name(%x) = %q, %d, want %q", c.r, s, e, c.name)
		}
		if r, e := runes.ByName(c.name); r != c.r || e != api.OK {
			t.Errorf("ByName(%q) = %x, %d, want %x", c.name, r, e, c.r)
		}
	}
}

// P2.4 and P2.5: ByName inverts Name, and runes that may not be in a text have no name.
func TestNamesOfAll(t *testing.T) {
	for _, r := range all() {
		want, err := "", api.ErrRune
		if inText(r) {
			want, err = fmt.Sprintf("U+%04X", r), api.OK
		}
		s, e := runes.Name(r)
		if s != want || e != err {
			t.Fatalf("Name(%x) = %q, %d, want %q, %d", r, s, e, want, err)
		}
		back, e := runes.ByName(s)
		if err == api.OK && (back != r || e != api.OK) || err != api.OK && (back != 0 || e != api.ErrFormat) {
			t.Fatalf("ByName(%q) = %x, %d, want %x", s, back, e, r)
		}
	}
}

// P2.4
func TestWhatIsNoName(t *testing.T) {
	for _, s := range []string{
		"", "U", "U+", "+", "a", "0061", "+0061", "U0061", "U-0061",
		// Not of a rune that may be in a text.
		"U+0000", "U+D800", "U+DBFF", "U+DC00", "U+DFFF", "U+110000", "U+FFFFFF", "U+7FFFFFFF", "U+80000061", "U+FFFFFFFF", "U+100000061", "U+10000000000000061",
		// Too few digits, or too many.
		"U+0", "U+1", "U+61", "U+061", "U+00061", "U+000061", "U+01F600", "U+00000061", "U+" + strings.Repeat("0", 100000) + "61", "U+" + strings.Repeat("1", 100000),
		// Small letters, in the digits and before them.
		"u+0061", "U+00e9", "U+20ac", "U+20Ac", "U+1f600",
		// Other characters, also such that other ways to read a number take.
		"U+006G", "U+00 1", " U+0061", "U+0061 ", "U+ 0061", "U+0061\n", "U+0061\x00", "U++061", "U+-061", "U+-0061", "U++0061", "U+0x61", "U+0X61", "U+00_61", "U+0_061", "U+6.10", "U+U+0061", "U+0061U+0062",
		"U+006\uFF11", "\uFF35+0061", "U+0061\xff", "U+\xff061", "\xff",
	} {
		if r, e := runes.ByName(s); r != 0 || e != api.ErrFormat {
			t.Errorf("ByName(%.20q) = %x, %d", s, r, e)
		}
	}
}

// P2.4: of all short strings of digits, and some characters beside them, just those are names that some rune has.
func TestShortStringsAreNamesOrNot(t *testing.T) {
	names := map[string]rune{}
	for r := rune(1); r < 0x1000; r++ {
		names[fmt.Sprintf("U+%04X", r)] = r
	}
	some := "0189:@AFGafg/+_"
	from, l := 0, []string{"U+", "U+0", "U+00"}
	for range 3 {
		to := len(l)
		for _, s := range l[from:to] {
			for _, c := range some {
				l = append(l, s+string(c))
			}
		}
		from = to
	}
	for _, s := range l {
		r, found := names[s]
		want := api.ErrFormat
		if found {
			want = api.OK
		}
		if got, e := runes.ByName(s); got != r || e != want {
			t.Fatalf("ByName(%q) = %x, %d, want %x, %d", s, got, e, r, want)
		}
	}
}
