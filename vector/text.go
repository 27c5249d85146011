package vector

import (
	"strings"

	"redpencil/api"
	"redpencil/dot"
)

const (
	noDots = "-"
	space  = " "
)

// Text returns the text of a vector, or an error, Parse the vector with a text, or an error.
func Text(v api.Vector) (string, api.Errno) {
	switch {
	case !Valid(v):
		return "", api.ErrArg
	case len(v) == 0:
		return noDots, api.OK
	}
	parts := make([]string, len(v))
	for i, d := range v {
		parts[i], _ = dot.Text(d)
	}
	return strings.Join(parts, space), api.OK
}
func Parse(s string) (api.Vector, api.Errno) {
	if s == noDots {
		return nil, api.OK
	}
	var v api.Vector
	for part := range strings.SplitSeq(s, space) {
		d, e := dot.Parse(part)
		v = append(v, d)
		// The look at each beginning ends the reading of a long string as soon as it can't be a text; the root has a text, but is in no vector.
		if e != api.OK || !Valid(v) {
			return nil, api.ErrFormat
		}
	}
	return v, api.OK
}
