package node

import (
	"strconv"
	"strings"

	"redpencil/api"
	"redpencil/dot"
	"redpencil/runes"
)

const (
	space     = " "
	partCount = 4 // the dot, the parent, the time and the rune
	deadName  = "-"
)

// Text returns the text of a node, or an error, Parse the node with a text, or an error.
func Text(n api.Node) (string, api.Errno) {
	if !Valid(n) {
		return "", api.ErrArg
	}
	// What a valid node has can be written.
	own, _ := dot.Text(n.Dot)
	parent, _ := dot.Text(n.Parent)
	return strings.Join([]string{own, parent, strconv.Itoa(n.Time), runeName(n)}, space), api.OK
}
func Parse(s string) (api.Node, api.Errno) {
	// One part more than there may be is enough to know that there are too many.
	parts := strings.SplitN(s, space, partCount+1)
	if len(parts) != partCount {
		return api.Node{}, api.ErrFormat
	}
	// A part that cannot be read is left as something that would be written otherwise.
	own, _ := dot.Parse(parts[0])
	parent, _ := dot.Parse(parts[1])
	time, _ := strconv.Atoi(parts[2])
	r, _ := runes.ByName(parts[3])
	n := api.Node{Dot: own, Parent: parent, Time: time, Rune: r}
	if text, e := Text(n); e != api.OK || text != s {
		return api.Node{}, api.ErrFormat
	}
	return n, api.OK
}

// runeName returns what stands in the text of a valid node for its rune.
func runeName(n api.Node) string {
	if Dead(n) {
		return deadName
	}
	name, _ := runes.Name(n.Rune)
	return name
}
