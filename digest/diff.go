package digest

import (
	"redpencil/api"
	"redpencil/context"
	"redpencil/join"
)

// noRune is the rune of a node that is dead.
const noRune rune = 0

// Diff returns what of a state a digest does not have, or an error.
func Diff(s api.State, d api.Digest) (api.State, api.Errno) {
	if !join.Valid(s) || !Valid(d) {
		return nil, api.ErrArg
	}
	var news api.State
	isNew := newsFor(d, s)
	for _, n := range s {
		if isNew(n) {
			news = append(news, n)
		}
	}
	return news, api.OK
}

// newsFor returns the question whether a digest lacks a node of a state: the node itself, or that it is dead.
func newsFor(d api.Digest, s api.State) func(n api.Node) bool {
	unknown := missingFrom(d.All, s)
	alive := missingFrom(d.Gone, s)
	return func(n api.Node) bool {
		return unknown[n.Dot] || n.Rune == noRune && alive[n.Dot]
	}
}

// missingFrom returns which dots of the nodes of a state a context does not have.
func missingFrom(c api.Context, s api.State) map[api.Dot]bool {
	dots := make([]api.Dot, 0, len(s))
	for _, n := range s {
		dots = append(dots, n.Dot)
	}
	// A context that is asked for one dot goes through its cloud; asked for all dots at once, it does so once.
	missing := map[api.Dot]bool{}
	for _, d := range context.Missing(c, dots) {
		missing[d] = true
	}
	return missing
}
