package dot_test

import (
	"slices"
	"testing"

	"redpencil/api"
	"redpencil/dot"
)

// P4.5: of two different dots just one comes before the other one, and only equal ones are neither.
func TestCompareIsTotal(t *testing.T) {
	for _, a := range edges() {
		for _, b := range edges() {
			there, back := dot.Compare(a, b), dot.Compare(b, a)
			if there != -back || there < -1 || there > 1 || (there == 0) != (a == b) {
				t.Fatalf("Compare(%v, %v) = %d, the other way round %d", a, b, there, back)
			}
		}
	}
}

// P4.5: what comes before a dot comes before all that come after this dot.
func TestCompareIsAnOrder(t *testing.T) {
	l := edges()
	for _, a := range l {
		for _, b := range l {
			if dot.Compare(a, b) > 0 {
				continue
			}
			for _, c := range l {
				if dot.Compare(b, c) <= 0 && dot.Compare(a, c) > 0 {
					t.Fatalf("%v, %v and %v go round in a circle", a, b, c)
				}
			}
		}
	}
}

// P4.5
func TestSetIsASet(t *testing.T) {
	for _, l := range append(small(), lists()...) {
		set := dot.Set(l)
		if !dot.IsSet(set) {
			t.Fatalf("Set(%v) = %v is no set", l, set)
		}
		if again := dot.Set(set); !slices.Equal(again, set) {
			t.Fatalf("Set(%v) = %v", set, again)
		}
		for _, d := range append(edges(), l...) {
			if dot.Has(set, d) != dot.Has(l, d) {
				t.Fatalf("%v and its set %v: just one has %v", l, set, d)
			}
		}
	}
}

// P4.5
func TestUnionHasNoOrder(t *testing.T) {
	pairs(func(a, b []api.Dot) {
		there, back := dot.Union(a, b), dot.Union(b, a)
		if !slices.Equal(there, back) || !dot.IsSet(there) {
			t.Fatalf("Union(%v, %v) = %v, the other way round %v", a, b, there, back)
		}
		if parts := dot.Union(dot.Set(a), dot.Set(b)); !slices.Equal(parts, there) {
			t.Fatalf("Union(%v, %v) = %v, of their sets %v", a, b, there, parts)
		}
	})
}

// P4.5
func TestMinusHasNothingOfTheSecondList(t *testing.T) {
	pairs(func(a, b []api.Dot) {
		rest := dot.Minus(a, b)
		if !dot.IsSet(rest) {
			t.Fatalf("Minus(%v, %v) = %v is no set", a, b, rest)
		}
		for _, d := range b {
			if dot.Has(rest, d) {
				t.Fatalf("Minus(%v, %v) = %v has %v", a, b, rest, d)
			}
		}
		if whole, want := dot.Union(rest, b), dot.Union(a, b); !slices.Equal(whole, want) {
			t.Fatalf("%v and %v: %v with the second one is %v, want %v", a, b, rest, whole, want)
		}
	})
}

// P4.5: each dot has a text of its own, from which it is found again.
func TestParseInvertsText(t *testing.T) {
	texts := map[string]api.Dot{}
	for _, d := range append(edges(), mixed(3000)...) {
		s, e := dot.Text(d)
		if e != api.OK {
			continue
		}
		if other, is := texts[s]; is && other != d {
			t.Fatalf("%v and %v have the text %q", d, other, s)
		}
		texts[s] = d
		if back, e := dot.Parse(s); back != d || e != api.OK {
			t.Fatalf("Parse(%q) = %v, %d, want %v", s, back, e, d)
		}
	}
	if len(texts) < 1000 {
		t.Errorf("only %d dots have a text", len(texts))
	}
}

// withRoom returns a copy of a list, and the room in which it stands, which has more dots behind it.
func withRoom(l []api.Dot) (given, room []api.Dot) {
	room = append(slices.Clone(l), dots(9, 9, 8, 8, 0, 0, 7, 7, 9, 9)...)
	return room[:len(l)], room
}

// The rule that arguments are not modified: neither their dots nor the room behind them.
func TestArgumentsStayAsTheyAre(t *testing.T) {
	pairs(func(a, b []api.Dot) {
		givenA, roomA := withRoom(a)
		givenB, roomB := withRoom(b)
		beforeA, beforeB := slices.Clone(roomA), slices.Clone(roomB)
		dot.IsSet(givenA)
		dot.Set(givenA)
		dot.Has(givenA, dotOf(9, 9))
		dot.Union(givenA, givenB)
		dot.Minus(givenA, givenB)
		if !slices.Equal(roomA, beforeA) || !slices.Equal(roomB, beforeB) {
			t.Fatalf("%v and %v became %v and %v", beforeA, beforeB, roomA, roomB)
		}
	})
}

// overwrite gives each dot of a list, and of the room behind it, another value.
func overwrite(l []api.Dot) {
	l = l[:cap(l)]
	for i := range l {
		l[i] = dotOf(l[i].Replica+1000, l[i].Counter-1000)
	}
}

// results returns what the functions that return lists do with two of them.
func results(a, b []api.Dot) [][]api.Dot {
	return [][]api.Dot{dot.Set(a), dot.Set(b), dot.Union(a, b), dot.Union(b, a), dot.Minus(a, b), dot.Minus(b, a)}
}

// The rule that results share no memory: with the arguments, or with other results, of the same call or of a later one.
func TestResultsShareNoMemory(t *testing.T) {
	for _, a := range lists() {
		for _, b := range lists() {
			want := [][]api.Dot{setOf(a), setOf(b), unionOf(a, b), unionOf(b, a), minusOf(a, b), minusOf(b, a)}
			givenA, roomA := withRoom(a)
			givenB, roomB := withRoom(b)
			first, second := results(givenA, givenB), results(givenA, givenB)
			overwrite(roomA)
			overwrite(roomB)
			for _, l := range first {
				overwrite(l)
			}
			results(mixed(40), mixed(30))
			for i, l := range second {
				if !slices.Equal(l, want[i]) {
					t.Fatalf("of %v and %v the result %d became %v, want %v", a, b, i, l, want[i])
				}
				// None of the results behind it has anything of this one either.
				overwrite(l)
			}
		}
	}
}

// What is done with results changes nothing of what was handed over, also if that was a set already.
func TestResultsLeaveArgumentsAlone(t *testing.T) {
	for _, l := range append(small(), lists()...) {
		for _, content := range [][]api.Dot{l, setOf(l)} {
			given, room := withRoom(content)
			before := slices.Clone(room)
			for _, other := range [][]api.Dot{nil, given, mixed(20)} {
				for _, result := range results(given, other) {
					overwrite(result)
				}
			}
			if !slices.Equal(room, before) {
				t.Fatalf("%v became %v", before, room)
			}
		}
	}
}

// Nothing depends on earlier calls.
func TestEqualCallsHaveEqualResults(t *testing.T) {
	pairs(func(a, b []api.Dot) {
		first := results(a, b)
		results(mixed(7), b)
		dot.Parse("9.9")
		for i, l := range results(a, b) {
			if !slices.Equal(l, first[i]) {
				t.Fatalf("of %v and %v the result %d is %v, and then %v", a, b, i, first[i], l)
			}
		}
	})
	for _, d := range edges() {
		s, e := dot.Text(d)
		back, f := dot.Parse(s)
		dot.Text(dotOf(9, 9))
		dot.Parse("another")
		if again, g := dot.Text(d); again != s || g != e {
			t.Fatalf("Text(%v) = %q, %d, and then %q, %d", d, s, e, again, g)
		}
		if again, g := dot.Parse(s); again != back || g != f {
			t.Fatalf("Parse(%q) = %v, %d, and then %v, %d", s, back, f, again, g)
		}
	}
}

// P1: no call panics, whatever its arguments are.
func TestEveryCallReturns(t *testing.T) {
	for _, d := range edges() {
		dot.Valid(d)
		dot.Root(d)
		dot.Text(d)
		dot.Has(nil, d)
		dot.Has(edges(), d)
		dot.Compare(d, api.Dot{})
		dot.Compare(api.Dot{}, d)
	}
	for x := range 1 << 16 {
		s := string([]byte{byte(x >> 8), byte(x)})
		dot.Parse(s)
		dot.Parse("3." + s)
		dot.Parse(s + ".7")
	}
	pairs(func(a, b []api.Dot) {
		results(a, b)
		dot.IsSet(a)
	})
}
