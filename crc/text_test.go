package crc_test

import (
	"fmt"
	"math"
	"strings"
	"testing"

	"redpencil/api"
	"redpencil/crc"
)

// P3.3: the examples of the chapter, and some more.
func TestTextAndParse(t *testing.T) {
	for _, c := range []struct {
		sum  uint32
		text string
	}{
		{crc.Sum(nil), "00000000"}, {crc.Sum([]byte("a")), "c1d04330"}, {crc.Sum([]byte("abc")), "364b3fb7"}, {crc.Sum([]byte("123456789")), "e3069283"},
		{1, "00000001"}, {9, "00000009"}, {10, "0000000a"}, {15, "0000000f"}, {16, "00000010"}, {0xabcdef, "00abcdef"}, {0xfffffff, "0fffffff"},
		{0x10000000, "10000000"}, {0x12345678, "12345678"}, {0x7fffffff, "7fffffff"}, {0x80000000, "80000000"}, {0xabcdefab, "abcdefab"}, {math.MaxUint32, "ffffffff"},
	} {
		if s := crc.Text(c.sum); s != c.text {
			t.Errorf("Text(%x) = %q, want %q", c.sum, s, c.text)
		}
		if n, e := crc.Parse(c.text); n != c.sum || e != api.OK {
			t.Errorf("Parse(%q) = %x, %d, want %x", c.text, n, e, c.sum)
		}
	}
}

// P3.3 and P3.4: Parse inverts Text.
func TestTextsOfManyNumbers(t *testing.T) {
	for _, n := range numbers() {
		s := crc.Text(n)
		if want := fmt.Sprintf("%08x", n); s != want {
			t.Fatalf("Text(%x) = %q, want %q", n, s, want)
		}
		if back, e := crc.Parse(s); back != n || e != api.OK {
			t.Fatalf("Parse(%q) = %x, %d, want %x", s, back, e, n)
		}
	}
}

// P3.3
func TestWhatIsNoText(t *testing.T) {
	for _, s := range []string{
		// Too few digits, or too many, also of a number that is not too large.
		"", "0", "1", "c1d0433", "0000000", "000000000", "0c1d04330", "c1d043300", "100000000", "ffffffff0", "fffffffff", "10000000000000000", "00000000c1d04330",
		strings.Repeat("0", 100000), strings.Repeat("0", 100000) + "c1d04330", strings.Repeat("f", 100000),
		// Large letters.
		"C1D04330", "c1D04330", "C1d04330", "FFFFFFFF", "0000000A", "000000F0",
		// Other characters, also such that other ways to read a number take.
		"c1d0433g", "g1d04330", "c1d0 330", " c1d0433", "c1d0433 ", " c1d04330", "c1d04330 ", "c1d04330\n", "c1d0433\n", "c1d04330\x00", "\x00c1d0433",
		"+1d04330", "-1d04330", "+c1d04330", "-c1d04330", "-00000001", "0x1d0433", "0xc1d04330", "0Xc1d04330", "x1d04330", "c1d0_330", "c1d0_4330", "_c1d0433", "c1d0433_", "c1d0433.", "1.000000", "1e+00000", "c1d04330h", "c1d0,330",
		"/0000000", ":0000000", "`0000000", "@0000000", "0000000/", "0000000:", "0000000`", "0000000@", "0000000G",
		"c1d0433\xb0", "c1d0433\xff", "\xff", "\xff\xff\xff\xff\xff\xff\xff\xff", "c1d043\u0663", "c1d0433\u0663", "\uff11\uff11\uff11\uff11\uff11\uff11\uff11\uff11", "c1d04330\uFEFF",
	} {
		if n, e := crc.Parse(s); n != 0 || e != api.ErrFormat {
			t.Errorf("Parse(%.20q) = %x, %d", s, n, e)
		}
	}
}

// P3.3: each byte, in each place of a text, is a digit or not.
func TestEveryByteOfAText(t *testing.T) {
	for at := range 8 {
		for x := range 256 {
			b := []byte("12345678")
			b[at] = byte(x)
			digit := strings.IndexByte("0123456789abcdef", byte(x))
			n, e := crc.Parse(string(b))
			if digit < 0 && (n != 0 || e != api.ErrFormat) {
				t.Fatalf("Parse(%q) = %x, %d", b, n, e)
			}
			if digit >= 0 && (int(n>>(28-4*at))%16 != digit || crc.Text(n) != string(b) || e != api.OK) {
				t.Fatalf("Parse(%q) = %x, %d", b, n, e)
			}
		}
	}
}
