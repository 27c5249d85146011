package dot_test

import (
	"fmt"
	"math"
	"strings"
	"testing"

	"redpencil/api"
	"redpencil/dot"
)

// P4.4: the examples of the chapter, and some more.
func TestTextAndParse(t *testing.T) {
	for _, c := range []struct {
		d    api.Dot
		text string
	}{
		{dotOf(3, 7), "3.7"}, {api.Dot{}, "root"},
		{dotOf(1, 1), "1.1"}, {dotOf(7, 3), "7.3"}, {dotOf(10, 10), "10.10"}, {dotOf(64, 1), "64.1"}, {dotOf(1, 64), "1.64"}, {dotOf(1, 65), "1.65"}, {dotOf(20, 300), "20.300"},
		{dotOf(64, 4294967295), "64.4294967295"}, {dotOf(1, 4294967295), "1.4294967295"}, {dotOf(3, 4294967290), "3.4294967290"}, {dotOf(9, 2147483647), "9.2147483647"}, {dotOf(9, 2147483648), "9.2147483648"}, {dotOf(12, 1000000), "12.1000000"},
	} {
		if s, e := dot.Text(c.d); s != c.text || e != api.OK {
			t.Errorf("Text(%v) = %q, %d, want %q", c.d, s, e, c.text)
		}
		if d, e := dot.Parse(c.text); d != c.d || e != api.OK {
			t.Errorf("Parse(%q) = %v, %d, want %v", c.text, d, e, c.d)
		}
	}
}

// P4.4: an example of the chapter, and some more.
func TestWhatHasNoText(t *testing.T) {
	for _, d := range dots(65, 1, 1, 0, 0, 1, 64, 0, 0, 4294967295, 1, 4294967296, 64, 4294967297, -1, 1, 1, -1, -1, -1, 0, -1, -1, 0, 66, 66, 4294967297, 1, 65, 4294967296,
		math.MaxInt, math.MaxInt, math.MinInt, math.MinInt, 1, math.MaxInt, math.MinInt, 1, 0, math.MinInt, math.MinInt, 0) {
		if s, e := dot.Text(d); s != "" || e != api.ErrArg {
			t.Errorf("Text(%v) = %q, %d", d, s, e)
		}
	}
}

// P4.4 and P4.5: Parse inverts Text, and what a dot that has no text would be written as is no text.
func TestTextsAtTheEdges(t *testing.T) {
	for _, d := range append(edges(), mixed(5000)...) {
		want, err := expected(d)
		if s, e := dot.Text(d); s != want || e != err {
			t.Fatalf("Text(%v) = %q, %d, want %q, %d", d, s, e, want, err)
		}
		if err == api.OK {
			if back, e := dot.Parse(want); back != d || e != api.OK {
				t.Fatalf("Parse(%q) = %v, %d, want %v", want, back, e, d)
			}
		}
		s := fmt.Sprintf("%d.%d", d.Replica, d.Counter)
		if back, e := dot.Parse(s); !isValid(d) && (back != api.Dot{} || e != api.ErrFormat) {
			t.Fatalf("Parse(%q) = %v, %d", s, back, e)
		}
	}
}

// P4.4
func TestWhatIsNoText(t *testing.T) {
	for _, s := range []string{
		// The examples of the chapter.
		"0.0", "03.7", "3.4294967296", "3",
		// Numbers that are not allowed, also such that are too large for any number.
		"0.1", "1.0", "65.1", "64.0", "65.4294967295", "64.4294967296", "64.4294967297", "100.1", "4294967297.1", "1.4294967297", "1.8589934593", "1.18446744073709551617", "18446744073709551617.1", "1.9223372036854775807", "1.9223372036854775808", "9223372036854775808.1",
		"1." + strings.Repeat("1", 100000), strings.Repeat("1", 100000) + ".1",
		// Zeros in front.
		"3.07", "03.07", "00.0", "0.00", "00.00", "3.00", "1.00000000000000000001", "001.1", "1." + strings.Repeat("0", 100000) + "1", strings.Repeat("0", 100000) + "1.1",
		// Too few parts, or too many, or empty ones.
		"", ".", "..", "3.", ".7", "3.7.", ".3.7", "3..7", "3.7.1", "3.7.3.7", "37", "0", "3.root", "root.7", "root.root", "root.", ".root", "root.0", "root.1", "1.root", "0.root",
		// Almost the word root.
		"roo", "oot", "rooot", "Root", "ROOT", "r", "rootroot", "root root", " root", "root ", "root\n", "root\x00", "\x00root", "-root", "+root", "toor", "null", "nil", "r\u043eot", "root\xff",
		// Signs, spaces and other characters, also such that other ways to read a number take.
		"+3.7", "3.+7", "-3.7", "3.-7", "-3.-7", "-0.0", "+0.0", "0.-0", "0.+0", " 3.7", "3.7 ", "3. 7", "3 .7", "3.7\n", "\t3.7", "3.7\x00", "\x003.7", "3.\x007", "3,7", "3:7", "3-7", "3/7", "3 7", "3_7",
		"1_0.1", "1.1_0", "0x3.7", "3.0x7", "0b1.1", "0o7.7", "3.7e0", "3e0.7", "3.7f", "a.1", "1.a", "a.b", "a", "3.7x", "x3.7", "1.7a", "1a.7", "(3.7)", "[3.7]", "{3 7}", "3.7,", "\"3.7\"", "inf.1", "1.nan",
		"\u0663.\u0667", "3.\u0667", "\uff13.\uff17", "3\uff0e7", "3\u00b7" + "7", "3.7\ufeff", "\ufeff3.7", "3.\xff", "\xff.7", "\xff", "3.7\xff", "\xc0\xae", "3\xc0\xae7",
	} {
		if d, e := dot.Parse(s); (d != api.Dot{}) || e != api.ErrFormat {
			t.Errorf("Parse(%.30q) = %v, %d", s, d, e)
		}
	}
}

// P4.4: of all short strings of some characters just those are texts that some dot has.
func TestShortStringsAreTextsOrNot(t *testing.T) {
	texts := map[string]api.Dot{"root": {}}
	for replica := 1; replica <= 64; replica++ {
		for counter := 1; counter < 1000; counter++ {
			texts[fmt.Sprintf("%d.%d", replica, counter)] = dotOf(replica, counter)
		}
	}
	l := []string{"", "roo", "1", "6", "64."}
	for from, size := 0, 0; size < 3; size++ {
		to := len(l)
		for _, s := range l[from:to] {
			for c := byte(0); c < 128; c++ {
				if strings.IndexByte("0123456789.+-_ rot/:ex", c) >= 0 {
					l = append(l, s+string(c))
				}
			}
		}
		from = to
	}
	found := 0
	for _, s := range l {
		want, is := texts[s]
		err := api.ErrFormat
		if is {
			found, err = found+1, api.OK
		}
		if d, e := dot.Parse(s); d != want || e != err {
			t.Fatalf("Parse(%q) = %v, %d, want %v, %d", s, d, e, want, err)
		}
	}
	if found < 1000 {
		t.Errorf("only %d of %d were texts", found, len(l))
	}
}

// P4.4: each byte, in each place of a text, is a digit, or makes another string of it that is none.
func TestEveryByteOfAText(t *testing.T) {
	for _, text := range []string{"12.345", "root", "64.4294967295"} {
		for at := range len(text) {
			for x := range 256 {
				b := []byte(text)
				b[at] = byte(x)
				s := string(b)
				var want api.Dot
				n, _ := fmt.Sscanf(s, "%d.%d", &want.Replica, &want.Counter)
				written, e := expected(want)
				err := api.OK
				if s != "root" && (n != 2 || e != api.OK || written != s) {
					want, err = api.Dot{}, api.ErrFormat
				}
				if d, e := dot.Parse(s); d != want || e != err {
					t.Fatalf("Parse(%q) = %v, %d, want %v, %d", s, d, e, want, err)
				}
			}
		}
	}
}
