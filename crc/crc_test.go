package crc_test

import (
	"bytes"
	"hash/crc32"
	"math"
	"slices"
	"testing"

	"redpencil/api"
	"redpencil/crc"
)

// descending returns the bytes from 31 to 0.
func descending() []byte {
	l := mixed(32)
	for i := range l {
		l[i] = byte(31 - i)
	}
	return l
}

// ascending returns the bytes from 0 to 31.
func ascending() []byte {
	l := descending()
	slices.Reverse(l)
	return l
}

// P3.1: the examples of the document and of the chapter, and sums that are known of CRC-32 Castagnoli.
func TestSum(t *testing.T) {
	for _, c := range []struct {
		b    []byte
		want uint32
	}{
		{nil, 0}, {[]byte{}, 0},
		{[]byte("a"), 0xc1d04330}, {[]byte("abc"), 0x364b3fb7}, {[]byte("123456789"), 0xe3069283},
		{bytes.Repeat([]byte{0}, 32), 0x8a9136aa}, {bytes.Repeat([]byte{255}, 32), 0x62a8ab43},
		{ascending(), 0x46dd794e}, {descending(), 0x113fdb5c},
	} {
		if n := crc.Sum(c.b); n != c.want {
			t.Errorf("Sum(%v) = %x, want %x", c.b, n, c.want)
		}
	}
}

// P3.1
func TestSumOfShortBytes(t *testing.T) {
	for _, b := range short() {
		if n, want := crc.Sum(b), expected(b); n != want {
			t.Fatalf("Sum(%v) = %x, want %x", b, n, want)
		}
	}
}

// P3.1: the definition, and the library that Go has for the same check sums.
func TestSumOfLongBytes(t *testing.T) {
	l := append(strange(), mixed(1<<20), make([]byte, 1<<20))
	for _, b := range l {
		n, want, known := crc.Sum(b), expected(b), crc32.Checksum(b, crc32.MakeTable(crc32.Castagnoli))
		if n != want || n != known {
			t.Fatalf("Sum of %d bytes = %x, want %x or %x", len(b), n, want, known)
		}
	}
}

// P3.1: the example of the chapter, and some more.
func TestUpdate(t *testing.T) {
	for _, c := range []struct {
		sum  uint32
		b    []byte
		want uint32
	}{
		{0, nil, 0}, {1, nil, 1}, {0x12345678, []byte{}, 0x12345678}, {math.MaxUint32, nil, math.MaxUint32},
		{0, []byte("a"), 0xc1d04330}, {crc.Sum([]byte("a")), []byte("bc"), 0x364b3fb7}, {crc.Sum([]byte("ab")), []byte("c"), 0x364b3fb7},
		{crc.Sum([]byte("12345")), []byte("6789"), 0xe3069283},
		// With FFFFFFFF in place of the sum the steps begin with 0, and a byte 0 leaves that as it is.
		{math.MaxUint32, []byte{0}, math.MaxUint32}, {math.MaxUint32, make([]byte, 1000), math.MaxUint32},
		{math.MaxUint32, []byte{128}, ^uint32(0x82f63b78)}, {math.MaxUint32, []byte{1}, ^uint32(0xf26b8303)},
	} {
		if n := crc.Update(c.sum, c.b); n != c.want {
			t.Errorf("Update(%x, %v) = %x, want %x", c.sum, c.b, n, c.want)
		}
	}
}

// P3.1: any number may be in place of the check sum of the first bytes.
func TestUpdateOfEveryNumber(t *testing.T) {
	for _, sum := range numbers() {
		for x := range 256 {
			b := []byte{byte(x)}
			if n, want := crc.Update(sum, b), ^steps(^sum, b); n != want {
				t.Fatalf("Update(%x, %v) = %x, want %x", sum, b, n, want)
			}
		}
		for _, size := range []int{0, 2, 3, 4, 5, 8, 17} {
			b := mixed(size)
			if n, want := crc.Update(sum, b), ^steps(^sum, b); n != want {
				t.Fatalf("Update(%x, %v) = %x, want %x", sum, b, n, want)
			}
		}
	}
}

// P3.2: the examples of the chapter, and some more.
func TestAppendAndOpen(t *testing.T) {
	for _, c := range []struct{ b, want []byte }{
		{nil, []byte{0, 0, 0, 0}}, {[]byte{}, []byte{0, 0, 0, 0}},
		{[]byte("a"), []byte{97, 193, 208, 67, 48}},
		{[]byte("abc"), []byte{97, 98, 99, 0x36, 0x4b, 0x3f, 0xb7}},
		{[]byte("123456789"), []byte("123456789\xe3\x06\x92\x83")},
		// Bytes that have their check sum already get another one.
		{[]byte{0, 0, 0, 0}, []byte{0, 0, 0, 0, 0x48, 0x67, 0x4b, 0xc7}},
	} {
		b := crc.Append(c.b)
		if !bytes.Equal(b, c.want) {
			t.Errorf("Append(%v) = %v, want %v", c.b, b, c.want)
		}
		if b, e := crc.Open(c.want); !bytes.Equal(b, c.b) || e != api.OK {
			t.Errorf("Open(%v) = %v, %d, want %v", c.want, b, e, c.b)
		}
	}
}

// P3.2
func TestAppendHasTheBytesAndTheirSum(t *testing.T) {
	for _, b := range append(short(), strange()...) {
		if got, want := crc.Append(b), withSum(b); !bytes.Equal(got, want) {
			t.Fatalf("Append(%v) = %v, want %v", b, got, want)
		}
	}
}

// P3.2: fewer than four bytes are too short, whatever they are.
func TestOpenOfTooFewBytes(t *testing.T) {
	l := append(short(), nil, []byte{}, []byte{0, 0, 0}, []byte{255, 255, 255}, []byte{193, 208, 67}, []byte{97, 193, 208})
	for _, b := range l {
		if got, e := crc.Open(b); len(got) != 0 || e != api.ErrShort {
			t.Fatalf("Open(%v) = %v, %d", b, got, e)
		}
	}
}

// P3.2
func TestOpenOfAnotherSum(t *testing.T) {
	for _, b := range [][]byte{
		{0, 0, 0, 1}, {1, 0, 0, 0}, {255, 255, 255, 255}, {0, 0, 0, 0, 0}, {0, 0, 0, 0, 0, 0, 0, 0},
		{97, 193, 208, 67, 49}, {97, 193, 208, 67, 47}, {97, 192, 208, 67, 48}, {98, 193, 208, 67, 48},
		// The lowest byte first, the bits not inverted, the sum before the bytes, or only a part of it.
		{97, 48, 67, 208, 193}, {97, 62, 47, 188, 207}, {193, 208, 67, 48, 97}, {97, 193, 208, 67}, {97, 97, 193, 208, 67, 48}, {97, 193, 208, 67, 48, 0}, {193, 208, 67, 48},
		// The check sum that is used with zip.
		{97, 0xe8, 0xb7, 0xbe, 0x43},
	} {
		if got, e := crc.Open(b); len(got) != 0 || e != api.ErrCheck {
			t.Errorf("Open(%v) = %v, %d", b, got, e)
		}
	}
}

// P3.2: of any bytes Open returns what the definition says.
func TestOpenOfAnything(t *testing.T) {
	opened := 0
	for _, first := range strange() {
		whole := withSum(first)
		for _, b := range [][]byte{first, whole, withSum(whole), whole[1:], whole[:len(whole)-1], append([]byte{0}, whole...)} {
			var want []byte
			err := api.ErrShort
			if len(b) >= 4 {
				want, err = b[:len(b)-4], api.OK
			}
			if err == api.OK && !bytes.Equal(withSum(want), b) {
				want, err = nil, api.ErrCheck
			}
			if err == api.OK {
				opened++
			}
			if got, e := crc.Open(b); !bytes.Equal(got, want) || e != err {
				t.Fatalf("Open(%v) = %v, %d, want %v, %d", b, got, e, want, err)
			}
		}
	}
	if opened < 2*len(strange()) {
		t.Errorf("only %d were opened", opened)
	}
}
