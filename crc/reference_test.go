package crc_test

import (
	"math"
	"slices"
)

// stepOfBit returns what the step of a bit makes of n, as the chapter defines it.
func stepOfBit(n uint32) uint32 {
	if n%2 == 1 {
		return n/2 ^ 0x82f63b78
	}
	return n / 2
}

// steps returns what the steps of some bytes make of n, as the chapter defines them.
func steps(n uint32, b []byte) uint32 {
	for _, x := range b {
		n ^= uint32(x)
		for range 8 {
			n = stepOfBit(n)
		}
	}
	return n
}

// expected returns the check sum of b, as the chapter defines it.
func expected(b []byte) uint32 { return math.MaxUint32 - steps(math.MaxUint32, b) }

// withSum returns b, and then the bytes of its check sum, as the chapter defines them.
func withSum(b []byte) []byte {
	n := expected(b)
	l := []byte{byte(n / 0x1000000), byte(n / 0x10000 % 0x100), byte(n / 0x100 % 0x100), byte(n % 0x100)}
	return append(slices.Clone(b), l...)
}

// numbers returns numbers of 32 bits: those around each power of 2 and their complements, and others that follow a rule.
func numbers() []uint32 {
	l := []uint32{0, 0x12345678, 0x9abcdef0, 0x01234567, 0x89abcdef, 0x82f63b78, 0xe3069283}
	for i := range 32 {
		n := uint32(1) << i
		l = append(l, n-1, n, n+1, ^(n - 1), ^n, ^(n + 1))
	}
	for n := range uint32(1000) {
		l = append(l, n, n*2654435761)
	}
	return l
}

// short returns all strings of up to two bytes.
func short() [][]byte {
	l := [][]byte{nil}
	for a := range 256 {
		l = append(l, []byte{byte(a)})
		for b := range 256 {
			l = append(l, []byte{byte(a), byte(b)})
		}
	}
	return l
}

// mixed returns n bytes that follow a rule, with all values among them if there are enough.
func mixed(n int) []byte {
	l := make([]byte, n)
	for i := range l {
		l[i] = byte(i*i + i/256*91 + 37*i)
	}
	return l
}

// strange returns strings of bytes of many lengths, with contents that are easily taken for one another.
func strange() [][]byte {
	l := [][]byte{nil, {}}
	for n := range 40 {
		l = append(l, mixed(n), slices.Repeat([]byte{0}, n), slices.Repeat([]byte{255}, n), slices.Repeat([]byte{128}, n))
	}
	return append(l, mixed(255), mixed(256), mixed(257), mixed(5000))
}
