package dot

import (
	"strconv"
	"strings"

	"redpencil/api"
)

const (
	rootText = "root"
	fullStop = "."
)

// Text returns the text of a dot, or an error, Parse the dot with a text, or an error.
func Text(d api.Dot) (string, api.Errno) {
	switch {
	case Root(d):
		return rootText, api.OK
	case !Valid(d):
		return "", api.ErrArg
	}
	return strconv.Itoa(d.Replica) + fullStop + strconv.Itoa(d.Counter), api.OK
}
func Parse(s string) (api.Dot, api.Errno) {
	replica, counter, _ := strings.Cut(s, fullStop)
	d := api.Dot{Replica: number(replica), Counter: number(counter)}
	// Many strings are read as the same numbers, the word root among them, but a dot has just one text.
	if text, e := Text(d); e != api.OK || text != s {
		return api.Dot{}, api.ErrFormat
	}
	return d, api.OK
}

// number returns the number that s is read as, and 0, as the root has it, if there is none.
func number(s string) int {
	n, err := strconv.Atoi(s)
	if err != nil {
		return 0
	}
	return n
}
