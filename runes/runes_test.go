package runes_test

import (
	"math"
	"slices"
	"strings"
	"testing"

	"redpencil/api"
	"redpencil/runes"
)

// P2.1
func TestValidAndSize(t *testing.T) {
	for _, c := range []struct {
		r     rune
		valid bool
		size  int
	}{
		{0, false, 0}, {1, true, 1}, {0x0a, true, 1}, {0x61, true, 1}, {0x7f, true, 1},
		{0x80, true, 2}, {0xe9, true, 2}, {0x7ff, true, 2},
		{0x800, true, 3}, {0x20ac, true, 3}, {0xd7ff, true, 3}, {0xe000, true, 3}, {0xfffd, true, 3}, {0xfffe, true, 3}, {0xffff, true, 3},
		{0x10000, true, 4}, {0x1f600, true, 4}, {0x10ffff, true, 4}, {api.MaxRune, true, 4},
		{0xd800, false, 0}, {0xdbff, false, 0}, {0xdc00, false, 0}, {0xdfff, false, 0},
		{0x110000, false, 0}, {math.MaxInt32, false, 0}, {-1, false, 0}, {math.MinInt32, false, 0},
	} {
		if v, n := runes.Valid(c.r), runes.Size(c.r); v != c.valid || n != c.size {
			t.Errorf("Valid and Size of %x = %v, %d, want %v, %d", c.r, v, n, c.valid, c.size)
		}
	}
}

// P2.1
func TestValidAndSizeOfAll(t *testing.T) {
	for _, r := range all() {
		size := 0
		if inText(r) {
			size = len(scalarBytes(r))
		}
		if v, n := runes.Valid(r), runes.Size(r); v != inText(r) || n != size {
			t.Fatalf("Valid and Size of %x = %v, %d", r, v, n)
		}
	}
}

// P2.2: the examples of the chapter, and some more.
func TestDecodeAndEncode(t *testing.T) {
	for _, c := range []struct {
		s string
		l []rune
	}{
		{"", nil}, {"a", []rune{0x61}}, {"aé", []rune{0x61, 0xe9}}, {"a€\U0001f600", []rune{0x61, 0x20ac, 0x1f600}},
		{"\x01\n\t\x7f", []rune{1, 10, 9, 0x7f}}, {"\uFFFD", []rune{0xfffd}}, {"a\uFFFDb\uFFFD", []rune{0x61, 0xfffd, 0x62, 0xfffd}},
		{"\xf4\x8f\xbf\xbf\xee\x80\x80\xed\x9f\xbf", []rune{0x10ffff, 0xe000, 0xd7ff}},
		// No characters are put together, or left out: a letter and its accent, and a mark at the beginning, stay as they are.
		{"e\u0301", []rune{0x65, 0x301}}, {"\uFEFFa", []rune{0xfeff, 0x61}},
	} {
		if l, e := runes.Decode(c.s); !slices.Equal(l, c.l) || e != api.OK {
			t.Errorf("Decode(%q) = %x, %d", c.s, l, e)
		}
		if s, e := runes.Encode(c.l); s != c.s || e != api.OK {
			t.Errorf("Encode(%x) = %q, %d", c.l, s, e)
		}
	}
	if s, e := runes.Encode([]rune{0x61, 0x20ac, 0x1f600}); len(s) != 8 || e != api.OK {
		t.Errorf("%q has %d bytes, %d", s, len(s), e)
	}
}

// brokenStrings are strings that no function takes.
var brokenStrings = []struct {
	s    string
	want api.Errno
}{
	// Longer ways to write a number.
	{"\xc0\x80", api.ErrMalformed}, {"\xc1\xbf", api.ErrMalformed}, {"\xe0\x80\x80", api.ErrMalformed}, {"\xe0\x9f\xbf", api.ErrMalformed},
	{"\xf0\x80\x80\x80", api.ErrMalformed}, {"\xf0\x8f\xbf\xbf", api.ErrMalformed}, {"\xf8\x88\x80\x80\x80", api.ErrMalformed}, {"\xfc\x84\x80\x80\x80\x80", api.ErrMalformed},
	// Halves of surrogate pairs, and both of them.
	{"\xed\xa0\x80", api.ErrMalformed}, {"\xed\xbf\xbf", api.ErrMalformed}, {"\xed\xa0\xbd\xed\xb8\x80", api.ErrMalformed},
	// Above the greatest number.
	{"\xf4\x90\x80\x80", api.ErrMalformed}, {"\xf5\x80\x80\x80", api.ErrMalformed}, {"\xf7\xbf\xbf\xbf", api.ErrMalformed}, {"\xfe", api.ErrMalformed}, {"\xff", api.ErrMalformed},
	// Parts of characters.
	{"\x80", api.ErrMalformed}, {"\xbf", api.ErrMalformed}, {"\xc3", api.ErrMalformed}, {"\xe2\x82", api.ErrMalformed}, {"\xe2", api.ErrMalformed}, {"\xf0\x9f\x98", api.ErrMalformed},
	{"\xc3a", api.ErrMalformed}, {"\xe2\x82a", api.ErrMalformed}, {"é\xa9", api.ErrMalformed}, {"\xef\xbf", api.ErrMalformed}, {"\xef\xbf\xbd\xbd", api.ErrMalformed},
	{"a\xff", api.ErrMalformed}, {"\xffa", api.ErrMalformed}, {"a\xe2\x82", api.ErrMalformed}, {"\uFFFD\xff", api.ErrMalformed}, {"\xff\uFFFD", api.ErrMalformed},
	// The character 0.
	{"\x00", api.ErrRune}, {"a\x00", api.ErrRune}, {"\x00a", api.ErrRune}, {"a\x00é\uFFFD", api.ErrRune},
	// Both: that the string is not UTF-8 comes first, wherever it is.
	{"\x00\xff", api.ErrMalformed}, {"\xff\x00", api.ErrMalformed}, {"a\x00é\x00\xe2\x82", api.ErrMalformed}, {"\xe2\x82\x00", api.ErrMalformed},
}

// P2.2 and P2.3
func TestBrokenStrings(t *testing.T) {
	for _, c := range brokenStrings {
		if l, e := runes.Decode(c.s); len(l) != 0 || e != c.want {
			t.Errorf("Decode(%q) = %x, %d, want %d", c.s, l, e, c.want)
		}
		if n, e := runes.Len(c.s); n != 0 || e != c.want {
			t.Errorf("Len(%q) = %d, %d, want %d", c.s, n, e, c.want)
		}
		// Also what is before the wrong part is not given, and a wrong range comes behind a wrong string.
		for _, r := range [][2]int{{0, 0}, {0, 1}, {-1, 0}, {1, 0}, {0, 100}, {math.MinInt, math.MaxInt}} {
			if s, e := runes.Cut(c.s, r[0], r[1]); s != "" || e != c.want {
				t.Errorf("Cut(%q, %d, %d) = %q, %d, want %d", c.s, r[0], r[1], s, e, c.want)
			}
		}
	}
}

// P2.2 and P2.3
func TestStrangeStrings(t *testing.T) {
	for _, s := range strange() {
		want, err := expected(s)
		if l, e := runes.Decode(s); !slices.Equal(l, want) || e != err {
			t.Fatalf("Decode(%q) = %x, %d, want %x, %d", s, l, e, want, err)
		}
		if n, e := runes.Len(s); n != len(want) || e != err {
			t.Fatalf("Len(%q) = %d, %d, want %d, %d", s, n, e, len(want), err)
		}
		whole := s
		if err != api.OK {
			whole = ""
		}
		if c, e := runes.Cut(s, 0, len(want)); c != whole || e != err {
			t.Fatalf("Cut(%q, 0, %d) = %q, %d", s, len(want), c, e)
		}
	}
}

// P2.2
func TestEncodeOfAll(t *testing.T) {
	for _, r := range all() {
		want, err := "", api.ErrRune
		if inText(r) {
			want, err = string(scalarBytes(r)), api.OK
		}
		if s, e := runes.Encode([]rune{r}); s != want || e != err {
			t.Fatalf("Encode(%x) = %q, %d, want %q, %d", r, s, e, want, err)
		}
	}
}

// P2.2
func TestEncodeRefusesOneRuneOfMany(t *testing.T) {
	for _, r := range edges() {
		for i := range 4 {
			l := slices.Insert([]rune{0x61, 0x20ac, 0xfffd}, i, r)
			want := api.ErrRune
			if inText(r) {
				want = api.OK
			}
			if s, e := runes.Encode(l); e != want || (s == "") != (e != api.OK) {
				t.Errorf("Encode(%x) = %q, %d, want %d", l, s, e, want)
			}
		}
	}
}

// P2.2: the arguments stay as they are, and results share nothing.
func TestNothingIsShared(t *testing.T) {
	l := []rune{0x61, 0x20ac}
	s, _ := runes.Encode(l)
	if !slices.Equal(l, []rune{0x61, 0x20ac}) {
		t.Errorf("Encode has made %x of its argument", l)
	}
	l[0] = 0x62
	first, _ := runes.Decode(s)
	second, _ := runes.Decode(s)
	first[0], first[1] = 0, 0
	if s != "a€" || !slices.Equal(second, []rune{0x61, 0x20ac}) {
		t.Errorf("%q, %x", s, second)
	}
}

// P2.3: the examples of the chapter, and some more.
func TestLenAndCut(t *testing.T) {
	for _, c := range []struct {
		s    string
		want int
	}{{"", 0}, {"a", 1}, {"aé€", 3}, {"aé€\U0001f600", 4}, {"\uFFFD", 1}, {"e\u0301", 2}, {strings.Repeat("€", 1000), 1000}} {
		if n, e := runes.Len(c.s); n != c.want || e != api.OK {
			t.Errorf("Len(%q) = %d, %d, want %d", c.s, n, e, c.want)
		}
	}
	for _, c := range []struct {
		from, to int
		want     string
		e        api.Errno
	}{
		{1, 3, "é€", api.OK}, {2, 2, "", api.OK}, {0, 3, "aé€", api.OK}, {0, 1, "a", api.OK}, {2, 3, "€", api.OK}, {0, 0, "", api.OK}, {3, 3, "", api.OK},
		{2, 1, "", api.ErrRange}, {0, 4, "", api.ErrRange}, {4, 4, "", api.ErrRange}, {3, 4, "", api.ErrRange}, {-1, 0, "", api.ErrRange}, {-1, -1, "", api.ErrRange}, {0, -1, "", api.ErrRange},
		// The string has six bytes, which do not count.
		{0, 6, "", api.ErrRange}, {6, 6, "", api.ErrRange},
		{math.MinInt, math.MaxInt, "", api.ErrRange}, {math.MaxInt, math.MaxInt, "", api.ErrRange}, {math.MinInt, math.MinInt, "", api.ErrRange},
		{0, math.MaxInt, "", api.ErrRange}, {math.MinInt, 0, "", api.ErrRange}, {math.MaxInt, math.MinInt, "", api.ErrRange},
	} {
		if s, e := runes.Cut("aé€", c.from, c.to); s != c.want || e != c.e {
			t.Errorf("Cut(aé€, %d, %d) = %q, %d, want %q, %d", c.from, c.to, s, e, c.want, c.e)
		}
	}
	if s, e := runes.Cut("", 0, 0); s != "" || e != api.OK {
		t.Errorf("Cut of nothing = %q, %d", s, e)
	}
	if s, e := runes.Cut("", 0, 1); s != "" || e != api.ErrRange {
		t.Errorf("Cut of too much = %q, %d", s, e)
	}
}

// P2.3
func TestCutIsAPartOfTheList(t *testing.T) {
	l := valid()
	s, _ := runes.Encode(l)
	for from := -1; from <= len(l)+1; from++ {
		for to := -1; to <= len(l)+1; to++ {
			want, err := "", api.ErrRange
			if 0 <= from && from <= to && to <= len(l) {
				err = api.OK
				for _, r := range l[from:to] {
					want += string(scalarBytes(r))
				}
			}
			if c, e := runes.Cut(s, from, to); c != want || e != err {
				t.Fatalf("Cut(%d, %d) = %q, %d, want %q, %d", from, to, c, e, want, err)
			}
		}
	}
}
