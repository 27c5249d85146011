package runes_test

import (
	"math"
	"slices"

	"redpencil/api"
)

// inText says which runes may be in a text, as the chapter defines it.
func inText(r rune) bool { return 0 < r && r <= 0x10ffff && !(0xd800 <= r && r <= 0xdfff) }

// scalarBytes returns the bytes of a scalar value, as the chapter defines them.
func scalarBytes(n rune) []byte {
	switch {
	case n < 0x80:
		return []byte{byte(n)}
	case n < 0x800:
		return []byte{byte(0xc0 + n/0x40), byte(0x80 + n%0x40)}
	case n < 0x10000:
		return []byte{byte(0xe0 + n/0x1000), byte(0x80 + n/0x40%0x40), byte(0x80 + n%0x40)}
	}
	return []byte{byte(0xf0 + n/0x40000), byte(0x80 + n/0x1000%0x40), byte(0x80 + n/0x40%0x40), byte(0x80 + n%0x40)}
}

// scalarAt returns the scalar value whose bytes b begins with, and how many these are; 0 bytes, if there is none.
func scalarAt(b []byte) (rune, int) {
	for size := 1; size <= min(4, len(b)); size++ {
		n := rune(b[0])
		if size > 1 {
			n %= 0x80 >> size
		}
		for _, c := range b[1:size] {
			n = n*0x40 + rune(c%0x40)
		}
		if (n == 0 || inText(n)) && slices.Equal(scalarBytes(n), b[:size]) {
			return n, size
		}
	}
	return 0, 0
}

// expected returns the runes of a string, and the error, as the chapter defines them.
func expected(s string) ([]rune, api.Errno) {
	var l []rune
	for b := []byte(s); len(b) > 0; {
		n, size := scalarAt(b)
		if size == 0 {
			return nil, api.ErrMalformed
		}
		l, b = append(l, n), b[size:]
	}
	if slices.Contains(l, 0) {
		return nil, api.ErrRune
	}
	return l, api.OK
}

// all returns the runes from below 0 to beyond the greatest that there is, and the extremes.
func all() []rune {
	l := []rune{math.MinInt32, math.MinInt32 + 0x61, math.MaxInt32, 1 << 24, 0x61 + 1<<24, -0x61}
	for r := rune(-300); r < 0x120000; r++ {
		l = append(l, r)
	}
	return l
}

// edges returns runes around those where something changes, among them some that may not be in a text.
func edges() []rune {
	l := []rune{math.MinInt32, math.MaxInt32, 0xe9, 0x20ac, 0x1f600}
	for _, r := range []rune{0, 0x61, 0x80, 0xfff, 0x800, 0x1000, 0xd800, 0xdfff, 0xe000, 0xfffd, 0x10000, 0x40000, 0xfffff, 0x10ffff} {
		l = append(l, r-1, r, r+1)
	}
	return l
}

// valid returns those of edges that may be in a text.
func valid() []rune {
	return slices.DeleteFunc(edges(), func(r rune) bool { return !inText(r) })
}

// strange returns all strings of up to four bytes that stand at the ends of what a byte of a character may be.
func strange() []string {
	some := []byte{0, 1, 0x61, 0x7f, 0x80, 0x8f, 0x90, 0x9f, 0xa0, 0xbf, 0xc0, 0xc1, 0xc2, 0xdf, 0xe0, 0xe1, 0xec, 0xed, 0xee, 0xef, 0xf0, 0xf1, 0xf3, 0xf4, 0xf5, 0xf8, 0xfe, 0xff}
	l := []string{""}
	for from, size := 0, 0; size < 4; size++ {
		to := len(l)
		for _, s := range l[from:to] {
			for _, c := range some {
				l = append(l, s+string([]byte{c}))
			}
		}
		from = to
	}
	return l
}
