package node_test

import (
	"fmt"
	"math"
	"regexp"
	"strconv"
	"strings"

	"redpencil/api"
)

// of returns the node with a text, which may also be what a node that is not valid would be written as.
func of(s string) api.Node {
	part := strings.Split(s, " ")
	n := api.Node{Dot: dotOf(part[0]), Parent: dotOf(part[1])}
	fmt.Sscanf(part[2], "%d", &n.Time)
	fmt.Sscanf(part[3], "U+%X", &n.Rune)
	return n
}

// dotOf returns the dot with a text.
func dotOf(s string) api.Dot {
	var d api.Dot
	fmt.Sscanf(s, "%d.%d", &d.Replica, &d.Counter)
	return d
}

// dotIs says which dots are valid, as the chapter of dots defines it.
func dotIs(d api.Dot) bool {
	return d.Replica > 0 && d.Replica < 65 && d.Counter > 0 && d.Counter < 4294967296
}

// runeIs says which runes may be in a text, as the chapter of runes defines it.
func runeIs(r rune) bool { return 0 < r && r <= 0x10ffff && !(0xd800 <= r && r <= 0xdfff) }

// isValid says which nodes are valid, as the chapter defines it.
func isValid(n api.Node) bool {
	switch {
	case !dotIs(n.Dot):
		return false
	case !dotIs(n.Parent) && n.Parent != api.Dot{}:
		return false
	case n.Parent.Replica == n.Dot.Replica && n.Parent.Counter == n.Dot.Counter:
		return false
	case n.Time < 1 || n.Time > 4611686018427387904:
		return false
	}
	return n.Rune == 0 || runeIs(n.Rune)
}

// stands says which of two nodes with one parent stands before the other one, as the chapter defines it.
func stands(a, b api.Node) bool {
	if a.Time != b.Time {
		return a.Time > b.Time
	}
	if a.Dot.Counter != b.Dot.Counter {
		return a.Dot.Counter > b.Dot.Counter
	}
	return a.Dot.Replica > b.Dot.Replica
}

// doAgree says which nodes agree, as the chapter defines it.
func doAgree(a, b api.Node) bool {
	same := a.Dot == b.Dot && a.Parent == b.Parent && a.Time == b.Time
	return same && (a.Rune == 0 || b.Rune == 0 || a.Rune == b.Rune)
}

// merged returns what two nodes are merged to, or the error, as the chapter defines them.
func merged(a, b api.Node) (api.Node, api.Errno) {
	switch {
	case !isValid(a), !isValid(b):
		return api.Node{}, api.ErrArg
	case !doAgree(a, b):
		return api.Node{}, api.ErrClash
	case a.Rune == 0:
		return a, api.OK
	}
	return b, api.OK
}

// dotText returns what a dot is written as, valid or not.
func dotText(d api.Dot) string {
	if d.Replica == 0 && d.Counter == 0 {
		return "root"
	}
	return fmt.Sprintf("%d.%d", d.Replica, d.Counter)
}

// written returns what a node would be written as, valid or not.
func written(n api.Node) string {
	name := "-"
	if n.Rune != 0 {
		name = fmt.Sprintf("U+%04X", n.Rune)
	}
	return fmt.Sprintf("%s %s %d %s", dotText(n.Dot), dotText(n.Parent), n.Time, name)
}

// expected returns the text of a node, and the error, as the chapter defines them.
func expected(n api.Node) (string, api.Errno) {
	if !isValid(n) {
		return "", api.ErrArg
	}
	return written(n), api.OK
}

// form is how the text of a node looks, but for how great the numbers are.
var form = regexp.MustCompile(`^([1-9][0-9]*)\.([1-9][0-9]*) (?:root|([1-9][0-9]*)\.([1-9][0-9]*)) ([1-9][0-9]*) (?:-|U\+([0-9A-F]{4}|[1-9A-F][0-9A-F]{4,5}))$`)

// read returns the node with a text, and the error, as the chapter defines them.
func read(s string) (api.Node, api.Errno) {
	part := form.FindStringSubmatch(s)
	if part == nil {
		return api.Node{}, api.ErrFormat
	}
	var bad error
	number := func(s string, base int) int {
		if s == "" { // the root or a dead node, which have no numbers here
			return 0
		}
		n, err := strconv.ParseInt(s, base, 64)
		if err != nil {
			bad = err
		}
		return int(n)
	}
	n := api.Node{
		Dot:    api.Dot{Replica: number(part[1], 10), Counter: number(part[2], 10)},
		Parent: api.Dot{Replica: number(part[3], 10), Counter: number(part[4], 10)},
		Time:   number(part[5], 10),
		Rune:   rune(number(part[6], 16)),
	}
	named := part[6] == "" || n.Rune != 0
	if bad != nil || !named || !isValid(n) {
		return api.Node{}, api.ErrFormat
	}
	return n, api.OK
}

// product returns the nodes with each of some dots, parents, times and runes.
func product(dots, parents []api.Dot, times []int, runes []rune) []api.Node {
	var l []api.Node
	for _, d := range dots {
		for _, parent := range parents {
			for _, time := range times {
				for _, r := range runes {
					l = append(l, api.Node{Dot: d, Parent: parent, Time: time, Rune: r})
				}
			}
		}
	}
	return l
}

// dots returns the dots with some texts.
func dots(texts ...string) []api.Dot {
	l := make([]api.Dot, len(texts))
	for i, s := range texts {
		l[i] = dotOf(s)
	}
	return l
}

// edgeDots returns dots, valid or not, with numbers around those where something changes.
func edgeDots() []api.Dot {
	return append(dots("root", "1.1", "2.1", "1.2", "3.7", "9.10", "63.65", "64.1", "64.4294967295", "1.4294967295", "64.4294967294",
		"65.1", "65.4294967295", "1.0", "0.1", "64.0", "0.4294967295", "1.4294967296", "4294967297.1", "1.4294967297", "-1.1", "1.-1", "-1.-1"),
		api.Dot{Replica: math.MaxInt, Counter: math.MaxInt}, api.Dot{Replica: math.MinInt, Counter: math.MinInt}, api.Dot{Replica: 1, Counter: math.MinInt})
}

// edgeTimes returns times, allowed or not, around those where something changes.
func edgeTimes() []int {
	return []int{math.MinInt, -(1 << 62), -1, 0, 1, 2, 9, 10, 1 << 32, 1<<62 - 1, 1 << 62, 1<<62 + 1, math.MaxInt}
}

// edgeRunes returns runes, allowed or not, around those where something changes.
func edgeRunes() []rune {
	return []rune{math.MinInt32, -0x61, -1, 0, 1, 0x2d, 0x61, 0x7f, 0x80, 0xfff, 0x1000, 0xd7ff, 0xd800, 0xdbff, 0xdc00, 0xdfff, 0xe000, 0xffff, 0x10000, 0xfffff, 0x100000, 0x10ffff, 0x110000, math.MaxInt32}
}

// edges returns nodes, valid or not, with everything around where something changes.
func edges() []api.Node {
	return product(edgeDots(), edgeDots(), edgeTimes(), edgeRunes())
}

// few returns nodes, most of them valid, many of which agree, or differ in one part only.
func few() []api.Node {
	l := product(dots("1.1", "2.1", "64.4294967295"), dots("root", "1.1", "3.7"), []int{1, 2, 1 << 62}, []rune{0, 0x61, 0x62, 0x10ffff})
	return append(l, wrong()...)
}

// wrong returns nodes that are not valid, each of them in one part, and some that are dead, and the zero node.
func wrong() []api.Node {
	l := []api.Node{{}, of("1.1 root 1 U+D800"), of("1.1 root 1 U+110000"), {Dot: dotOf("1.1"), Time: 1, Rune: -1}}
	for _, s := range []string{
		"root root 1 U+0061", "65.1 root 1 -", "1.0 root 1 U+0061", "1.4294967296 root 1 -", "-1.1 root 1 -",
		"1.1 1.1 1 U+0061", "1.1 1.1 1 -", "1.1 0.1 1 U+0061", "1.1 1.0 1 -", "1.1 65.1 1 U+0061", "1.1 1.4294967296 1 -",
		"1.1 root 0 U+0061", "1.1 root 0 -", "1.1 root -1 U+0061", "1.1 root 4611686018427387905 -", "1.1 root 9223372036854775807 U+0061",
	} {
		l = append(l, of(s))
	}
	return l
}

// rest returns n valid nodes that follow a rule, in no order, a part of them dead.
func rest(n int) []api.Node {
	l := make([]api.Node, n)
	for i := range l {
		l[i] = api.Node{Dot: api.Dot{Replica: i*i%64 + 1, Counter: i*37%1000 + 1}, Time: i*i*i + 1}
		if i%5 > 0 {
			l[i].Parent = api.Dot{Replica: i%64 + 1, Counter: i*53%900 + 1001}
		}
		if i%3 > 0 {
			l[i].Rune = rune(i*7919%0xd000 + 1)
		}
	}
	return l
}
