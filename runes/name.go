package runes

import (
	"strconv"
	"strings"

	"redpencil/api"
)

const (
	namePrefix = "U+"
	hex        = 16 // the base of the digits
	leastHex   = 4  // how many digits a name has at least
	runeBits   = 31 // how many bits a rune has that is not below 0
)

// Name returns the name of a rune, or an error, ByName the rune with a name, or an error.
func Name(r rune) (string, api.Errno) {
	if !Valid(r) {
		return "", api.ErrRune
	}
	digits := strings.ToUpper(strconv.FormatInt(int64(r), hex))
	zeros := strings.Repeat("0", max(0, leastHex-len(digits)))
	return namePrefix + zeros + digits, api.OK
}
func ByName(s string) (rune, api.Errno) {
	digits, found := strings.CutPrefix(s, namePrefix)
	if !found {
		return 0, api.ErrFormat
	}
	n, err := strconv.ParseUint(digits, hex, runeBits)
	if err != nil {
		return 0, api.ErrFormat
	}
	r := rune(n)
	// Other digits may have the same value, but a rune has just one name.
	if name, e := Name(r); e != api.OK || name != s {
		return 0, api.ErrFormat
	}
	return r, api.OK
}
