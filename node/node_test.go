package node_test

import (
	"math"
	"testing"

	"redpencil/api"
	"redpencil/node"
)

// P9.1: the examples of the chapter, and the ends of what is valid.
func TestValid(t *testing.T) {
	for _, c := range []struct {
		text  string
		valid bool
	}{
		{"1.1 root 1 U+0061", true}, {"1.2 1.1 2 -", true}, {"1.1 1.1 2 -", false}, {"1.1 root 0 -", false},
		// The dot, which the root is not, nor any other one that is not valid.
		{"64.4294967295 root 1 U+0061", true}, {"64.1 root 1 -", true}, {"1.4294967295 root 1 -", true},
		{"65.1 root 1 U+0061", false}, {"0.1 root 1 U+0061", false}, {"1.0 root 1 U+0061", false}, {"1.4294967296 root 1 U+0061", false}, {"64.4294967296 root 1 -", false}, {"-1.1 root 1 -", false}, {"1.-1 root 1 -", false},
		{"root root 1 U+0061", false}, {"root root 1 -", false}, {"root 1.1 1 U+0061", false}, {"root 1.1 1 -", false},
		// The parent: the root, or any other valid dot, of the same replica or the same counter, and also a later one.
		{"1.1 64.4294967295 1 U+0061", true}, {"64.4294967295 64.4294967294 1 -", true}, {"1.1 2.1 1 U+0061", true}, {"2.1 1.1 1 U+0061", true}, {"1.1 1.2 1 U+0061", true}, {"7.3 3.7 1 -", true},
		{"1.1 65.1 1 U+0061", false}, {"1.1 0.1 1 U+0061", false}, {"1.1 1.0 1 U+0061", false}, {"1.1 64.0 1 -", false}, {"1.1 1.4294967296 1 U+0061", false}, {"1.1 -1.1 1 -", false}, {"1.1 1.-1 1 -", false},
		{"1.1 1.1 1 U+0061", false}, {"64.4294967295 64.4294967295 1 U+0061", false}, {"65.1 65.1 1 -", false},
		// The time.
		{"1.1 root 2 U+0061", true}, {"1.1 root 4611686018427387903 U+0061", true}, {"1.1 root 4611686018427387904 U+0061", true}, {"1.1 root 4611686018427387904 -", true},
		{"1.1 root 0 U+0061", false}, {"1.1 root -1 U+0061", false}, {"1.1 root -1 -", false}, {"1.1 root 4611686018427387905 U+0061", false}, {"1.1 root 4611686018427387905 -", false}, {"1.1 root 9223372036854775807 -", false}, {"1.1 root -9223372036854775808 U+0061", false},
		// The rune.
		{"1.1 root 1 -", true}, {"1.1 root 1 U+0001", true}, {"1.1 root 1 U+D7FF", true}, {"1.1 root 1 U+E000", true}, {"1.1 root 1 U+FFFF", true}, {"1.1 root 1 U+10000", true}, {"1.1 root 1 U+10FFFF", true},
		{"1.1 root 1 U+D800", false}, {"1.1 root 1 U+DFFF", false}, {"1.1 root 1 U+110000", false}, {"1.1 root 1 U+7FFFFFFF", false},
	} {
		if valid := node.Valid(of(c.text)); valid != c.valid {
			t.Errorf("Valid(%s) = %t", c.text, valid)
		}
	}
	for _, r := range []rune{-1, -0x61, math.MinInt32} {
		if n := (api.Node{Dot: dotOf("1.1"), Time: 1, Rune: r}); node.Valid(n) {
			t.Errorf("Valid(%v)", n)
		}
	}
	if node.Valid(api.Node{}) {
		t.Error("the zero node is valid")
	}
}

// P9.1
func TestValidAtTheEdges(t *testing.T) {
	valid := 0
	for _, n := range append(edges(), few()...) {
		want := isValid(n)
		if node.Valid(n) != want {
			t.Fatalf("Valid(%s) = %t", written(n), !want)
		}
		if want {
			valid++
		}
	}
	if valid < 1000 {
		t.Errorf("only %d nodes were valid", valid)
	}
	for _, n := range rest(3000) {
		if !node.Valid(n) {
			t.Fatalf("Valid(%s) = false", written(n))
		}
	}
	for _, n := range wrong() {
		if node.Valid(n) {
			t.Fatalf("Valid(%s) = true", written(n))
		}
	}
}

// P9.1: of all runes just those may be that may be in a text, and the rune 0.
func TestValidWithEveryRune(t *testing.T) {
	n := of("3.7 1.2 5 -")
	for r := rune(-0x200); r < 0x120000; r++ {
		n.Rune = r
		if want := r == 0 || runeIs(r); node.Valid(n) != want {
			t.Fatalf("Valid(%s) = %t", written(n), !want)
		}
	}
}

// P9.1: an example of the chapter, and that the rune alone matters.
func TestDead(t *testing.T) {
	for _, c := range []struct {
		text string
		dead bool
	}{
		{"1.2 1.1 2 -", true}, {"1.1 root 1 U+0061", false}, {"1.1 root 1 U+0001", false}, {"1.1 root 1 U+0030", false}, {"1.1 root 1 U+002D", false}, {"1.1 root 1 U+10FFFF", false},
		// Nodes that are not valid.
		{"root root 0 -", true}, {"1.1 1.1 2 -", true}, {"65.1 root -1 -", true}, {"1.1 1.1 2 U+0061", false}, {"root root 0 U+0061", false}, {"1.1 root 1 U+D800", false}, {"1.1 root 1 U+110000", false},
	} {
		if dead := node.Dead(of(c.text)); dead != c.dead {
			t.Errorf("Dead(%s) = %t", c.text, dead)
		}
	}
	for _, n := range edges() {
		if want := n.Rune == 0; node.Dead(n) != want {
			t.Fatalf("Dead(%s) = %t", written(n), !want)
		}
	}
}

// P9.1: the examples of the chapter, and that nothing else changes, whatever the node has.
func TestKill(t *testing.T) {
	for _, c := range []struct{ text, want string }{
		{"1.1 root 1 U+0061", "1.1 root 1 -"}, {"1.1 root 1 -", "1.1 root 1 -"}, {"3.7 1.2 5 U+10FFFF", "3.7 1.2 5 -"}, {"64.4294967295 64.4294967294 4611686018427387904 U+0001", "64.4294967295 64.4294967294 4611686018427387904 -"},
		// Nodes that are not valid.
		{"root root 0 U+0061", "root root 0 -"}, {"1.1 1.1 2 U+0061", "1.1 1.1 2 -"}, {"65.0 -1.-2 -3 U+D800", "65.0 -1.-2 -3 -"}, {"1.1 root 1 U+110000", "1.1 root 1 -"},
	} {
		if n := node.Kill(of(c.text)); n != of(c.want) {
			t.Errorf("Kill(%s) = %v, want %s", c.text, n, c.want)
		}
	}
	for _, n := range edges() {
		want := api.Node{Dot: n.Dot, Parent: n.Parent, Time: n.Time}
		if killed := node.Kill(n); killed != want || !node.Dead(killed) {
			t.Fatalf("Kill(%s) = %v", written(n), killed)
		}
	}
}

// P9.2: the examples of the chapter and of DOC.md, and some more.
func TestBefore(t *testing.T) {
	for _, c := range []struct {
		a, b        string
		there, back bool
	}{
		{"1.2 root 5 -", "9.1 root 4 -", true, false}, {"1.2 root 5 -", "2.2 root 5 -", false, true}, {"1.1 root 5 -", "1.1 root 5 -", false, false},
		{"1.3 root 5 -", "9.2 root 5 -", true, false}, {"2.2 root 5 -", "10.2 root 5 -", false, true}, {"1.9 root 5 -", "1.10 root 5 -", false, true}, {"64.1 root 5 -", "1.4294967295 root 5 -", false, true},
		{"64.4294967295 root 1 -", "1.1 root 4611686018427387904 -", false, true}, {"1.1 root 4611686018427387903 -", "1.1 root 4611686018427387904 -", false, true},
		// What else they have does not matter.
		{"1.2 root 5 U+0061", "9.1 1.1 4 U+0062", true, false}, {"1.2 9.9 5 -", "2.2 8.8 5 U+0061", false, true}, {"1.1 root 5 U+0061", "1.1 root 5 -", false, false}, {"1.1 2.2 5 U+0061", "1.1 3.3 5 U+0062", false, false}, {"1.1 2.2 5 -", "1.1 root 5 -", false, false},
		// Nodes that are not valid.
		{"root root 0 -", "1.1 1.1 0 -", false, true}, {"65.1 root 1 -", "64.1 root 1 -", true, false}, {"1.-1 root 1 -", "root root 1 -", false, true}, {"root root 0 -", "root root -1 -", true, false},
		{"1.1 root -9223372036854775808 -", "1.1 root 9223372036854775807 -", false, true}, {"1.1 root 1 U+D800", "1.1 root 1 U+DFFF", false, false}, {"-9223372036854775808.1 root 1 -", "9223372036854775807.1 root 1 -", false, true},
	} {
		there, back := node.Before(of(c.a), of(c.b)), node.Before(of(c.b), of(c.a))
		if there != c.there || back != c.back {
			t.Errorf("Before(%s, %s) = %t, the other way round %t", c.a, c.b, there, back)
		}
	}
}

// P9.2: all dots and times, with parents and runes that are different.
func TestBeforeAtTheEdges(t *testing.T) {
	l, parents, names := product(edgeDots(), dots("root"), edgeTimes(), []rune{0x61}), edgeDots(), edgeRunes()
	for _, a := range l {
		for i, b := range l {
			b.Parent, b.Rune = parents[i%len(parents)], names[i%len(names)]
			if want := stands(a, b); node.Before(a, b) != want {
				t.Fatalf("Before(%s, %s) = %t", written(a), written(b), !want)
			}
		}
	}
}
