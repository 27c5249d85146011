package crc

import (
	"strconv"
	"strings"

	"redpencil/api"
)

const (
	hex     = 16 // the base of the digits
	digits  = 8  // how many digits a text has
	sumBits = 32
)

// Text returns a check sum in hexadecimal, Parse the check sum with a text, or an error.
func Text(sum uint32) string {
	s := strconv.FormatUint(uint64(sum), hex)
	return strings.Repeat("0", digits-len(s)) + s
}
func Parse(s string) (uint32, api.Errno) {
	n, err := strconv.ParseUint(s, hex, sumBits)
	if err != nil {
		return 0, api.ErrFormat
	}
	sum := uint32(n)
	// Large letters, and more or fewer digits, may have the same value, but a check sum has just one text.
	if Text(sum) != s {
		return 0, api.ErrFormat
	}
	return sum, api.OK
}
