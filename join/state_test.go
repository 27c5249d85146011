package join_test

import (
	"math"
	"slices"
	"testing"

	"redpencil/api"
	"redpencil/join"
)

// P14.1
func TestValid(t *testing.T) {
	for _, c := range []struct {
		s     string
		valid bool
	}{
		{"", true}, {chapterA, true}, {chapterB, true}, {chapterC, true}, {"1.1 root 1 -", true}, {"64.4294967295 root 4611686018427387904 U+10FFFF", true}, {"64.4294967294 root 1 -, 1.4294967295 root 1 -", true},
		// A part of a whole state is one, too: parents may be lacking, or later, or stand in a circle.
		{"1.2 9.9 3 U+0061", true}, {"1.1 1.2 1 -, 1.2 1.1 1 -", true}, {"1.1 root 5 -, 1.2 1.1 5 -", true},
		{"1.2 root 1 -, 1.1 root 1 -", false}, {"2.1 root 1 -, 1.1 root 1 -", false}, {"1.2 root 1 -, 2.1 root 1 -", false}, {"1.1 root 1 -, 1.1 root 1 -", false}, {"1.1 root 1 U+0061, 1.1 root 1 -", false}, {"1.1 root 1 -, 1.2 root 1 -, 1.2 root 1 -", false},
		{"root root 1 -", false}, {"0.1 root 1 -", false}, {"1.1 root 0 -", false}, {"1.1 1.1 1 -", false}, {"1.1 root 1 U+D800", false}, {"1.1 root 4611686018427387905 -", false}, {chapterA + ", 65.2 root 1 -", false}, {"1.0 root 1 -, " + chapterA, false},
	} {
		if is := join.Valid(of(c.s)); is != c.valid {
			t.Errorf("Valid(%s) = %t", c.s, is)
		}
	}
}

// P14.1
func TestValidOfMany(t *testing.T) {
	for _, s := range slices.Concat(states(), small(3)) {
		if !join.Valid(s) || !isState(s) {
			t.Errorf("Valid(%v) = false", s)
		}
	}
	for _, s := range noStates() {
		if join.Valid(s) || isState(s) {
			t.Errorf("Valid(%v) = true", s)
		}
	}
}

// P14.1: any states, stores or not, in all parts of their nodes.
func TestEqual(t *testing.T) {
	for _, c := range []struct {
		a, b  string
		equal bool
	}{
		{"", "", true}, {chapterA, chapterA, true}, {chapterA, chapterB, false}, {chapterA, "", false}, {"", chapterA, false}, {chapterA, chapterA + ", 1.2 1.1 3 U+007A", false}, {chapterA + ", 1.2 1.1 3 U+007A", chapterA, false},
		{"1.1 root 1 U+0061", "2.1 root 1 U+0061", false}, {"1.1 root 1 U+0061", "1.2 root 1 U+0061", false}, {"1.1 9.9 1 U+0061", "1.1 8.9 1 U+0061", false}, {"1.1 9.9 1 U+0061", "1.1 9.8 1 U+0061", false}, {"1.1 root 1 U+0061", "1.1 root 2 U+0061", false}, {"1.1 root 1 U+0061", "1.1 root 1 -", false}, {"1.1 root 1 U+0061", "1.1 root 1 U+0062", false},
		{"1.1 root 1 -, 1.2 root 1 -, 1.3 root 1 -", "1.1 root 1 -, 1.2 root 1 U+0061, 1.3 root 1 -", false}, {"1.1 root 1 -, 1.2 root 1 -, 1.3 root 1 -", "1.1 root 1 -, 1.2 root 1 -, 1.3 root 2 -", false},
		{"1.2 root 1 -, 1.1 root 1 -", "1.2 root 1 -, 1.1 root 1 -", true}, {"1.2 root 1 -, 1.1 root 1 -", "1.1 root 1 -, 1.2 root 1 -", false}, {"1.1 root 1 -, 1.1 root 1 -", "1.1 root 1 -", false}, {"1.1 root 1 -, 1.1 root 1 -", "1.1 root 1 -, 1.1 root 1 -", true}, {"root root 0 -", "", false}, {"0.1 root -1 U+110000", "0.1 root -1 U+110000", true}, {"0.1 root -1 U+110000", "0.1 root -1 U+110001", false},
	} {
		if is := join.Equal(of(c.a), of(c.b)); is != c.equal {
			t.Errorf("Equal(%s, %s) = %t", c.a, c.b, is)
		}
	}
	far := api.State{{Time: math.MinInt, Dot: api.Dot{Replica: math.MaxInt}}}
	if !join.Equal(nil, api.State{}) || !join.Equal(api.State{}, nil) || !join.Equal(far, slices.Clone(far)) || join.Equal(far, api.State{{}}) {
		t.Error("states without nodes, or such at the ends of all numbers, are not compared as they should be")
	}
}

// P14.1: each state against each other one.
func TestEqualOfMany(t *testing.T) {
	all := slices.Concat(states(), noStates())
	for i, a := range all {
		for k, b := range all {
			if is := join.Equal(a, slices.Clone(b)); is != isSame(a, b) || i == k && !is {
				t.Fatalf("Equal(%v, %v) = %t", a, b, is)
			}
		}
	}
}

// P14.1: any states, stores or not; what is done to a state, to its copy, or to what lies behind them, is not seen in the other one.
func TestCopy(t *testing.T) {
	other := node("9.9 8.8 7 -")
	for _, s := range slices.Concat(states(), noStates(), list("root root 0 -")) {
		whole := append(slices.Clone(s), other)
		own := whole[:len(s)]
		c := join.Copy(own)
		if !isSame(c, s) || !join.Equal(c, s) || !isSame(own, s) {
			t.Fatalf("Copy(%v) = %v", s, c)
		}
		for i := range own {
			own[i] = other
		}
		if !isSame(c, s) {
			t.Fatalf("Copy(%v) has changed to %v with the state", s, c)
		}
		copy(own, s)
		for i := range c[:cap(c)] {
			c[:cap(c)][i] = node("7.7 6.6 5 -")
		}
		if !isSame(whole, append(slices.Clone(s), other)) {
			t.Fatalf("%v has changed to %v with its copy", s, whole)
		}
	}
}
