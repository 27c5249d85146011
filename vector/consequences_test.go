package vector_test

import (
	"slices"
	"testing"

	"redpencil/api"
	"redpencil/vector"
)

// merged returns what two vectors are merged to, which must not fail.
func merged(t *testing.T, a, b api.Vector) api.Vector {
	t.Helper()
	v, e := vector.Merge(a, b)
	if e != api.OK {
		t.Fatalf("Merge(%v, %v) = %v, %d", a, b, v, e)
	}
	return v
}

// P5.5: also what is refused does not depend on the order of the arguments.
func TestMergeHasNoOrder(t *testing.T) {
	pairs(func(a, b api.Vector) {
		there, e := vector.Merge(a, b)
		back, f := vector.Merge(b, a)
		if !slices.Equal(there, back) || e != f {
			t.Fatalf("Merge(%v, %v) = %v, %d, the other way round %v, %d", a, b, there, e, back, f)
		}
	})
}

// P5.5
func TestMergeCanBeGrouped(t *testing.T) {
	for _, all := range [][]api.Vector{valid(), long()} {
		for _, a := range all {
			for _, b := range all {
				ab := merged(t, a, b)
				for _, c := range all {
					first, last := merged(t, ab, c), merged(t, a, merged(t, b, c))
					if !slices.Equal(first, last) {
						t.Fatalf("%v, %v and %v are merged to %v, or to %v", a, b, c, first, last)
					}
				}
			}
		}
	}
}

// P5.5
func TestMergeWithItself(t *testing.T) {
	for _, v := range append(valid(), long()...) {
		if again := merged(t, v, v); !slices.Equal(again, v) {
			t.Fatalf("Merge(%v, %v) = %v", v, v, again)
		}
	}
}

// P5.5: and whatever has no fewer dots than both has no fewer than what they are merged to.
func TestMergeHasNoFewerDots(t *testing.T) {
	noFewer := func(a, b api.Vector) bool {
		n, e := vector.Order(a, b)
		return e == api.OK && (n == 0 || n == 1)
	}
	for _, all := range [][]api.Vector{valid(), long()} {
		for _, a := range all {
			for _, b := range all {
				v := merged(t, a, b)
				if !vector.Valid(v) || !noFewer(v, a) || !noFewer(v, b) {
					t.Fatalf("Merge(%v, %v) = %v has fewer dots", a, b, v)
				}
				for _, c := range all {
					if noFewer(c, a) && noFewer(c, b) && !noFewer(c, v) {
						t.Fatalf("Merge(%v, %v) = %v, but %v has them, too", a, b, v, c)
					}
				}
			}
		}
	}
}

// P5.5: all orders of some dots, of which some are there twice.
func TestOfHasNoOrder(t *testing.T) {
	for _, l := range []api.Vector{vec(3, 7, 1, 2, 3, 4, 1, 1, 64, 9, 3, 7), vec(1, 1, 1, 2, 1, 3, 1, 4, 1, 5), vec(5, 1, 4, 1, 3, 1, 2, 1, 1, 1), vec(1, 2, 2, 1, 0, 1, 3, 3)} {
		want, err := expectedOf(l)
		orders := 0
		var turn func(n int)
		turn = func(n int) {
			if n == len(l) {
				orders++
				if v, e := vector.Of(l); !same(v, e, want, err) {
					t.Fatalf("Of(%v) = %v, %d, want %v, %d", l, v, e, want, err)
				}
			}
			for i := n; i < len(l); i++ {
				l[n], l[i] = l[i], l[n]
				turn(n + 1)
				l[n], l[i] = l[i], l[n]
			}
		}
		turn(0)
		if orders < 24 {
			t.Errorf("only %d orders of %v", orders, l)
		}
	}
}

// P5.5: of the dots of a valid vector that vector comes again, and it is raised to its own dots without any change.
func TestOfAVectorIsTheVector(t *testing.T) {
	for _, v := range append(valid(), long()...) {
		if again, e := vector.Of(v); !same(again, e, v, api.OK) {
			t.Fatalf("Of(%v) = %v, %d", v, again, e)
		}
		var step api.Vector
		for _, d := range slices.Backward(v) {
			if again, e := vector.Raise(v, d); !same(again, e, v, api.OK) {
				t.Fatalf("Raise(%v, %v) = %v, %d", v, d, again, e)
			}
			step, _ = vector.Raise(step, d)
		}
		if !slices.Equal(step, v) {
			t.Fatalf("%v was raised to %v, dot by dot", v, step)
		}
	}
}

// P5.3: the order is that of the other way round with the other sign, 0 for equal vectors alone, and what merging says.
func TestOrderFitsMerge(t *testing.T) {
	for _, all := range [][]api.Vector{valid(), long()} {
		for _, a := range all {
			for _, b := range all {
				there, e := vector.Order(a, b)
				back, f := vector.Order(b, a)
				opposite := there == -back && there != 2 || there == 2 && back == 2
				if !opposite || e != api.OK || f != api.OK || (there == 0) != slices.Equal(a, b) {
					t.Fatalf("Order(%v, %v) = %d, %d, the other way round %d, %d", a, b, there, e, back, f)
				}
				v := merged(t, a, b)
				if has := slices.Equal(v, b); has != (there == -1 || there == 0) {
					t.Fatalf("Order(%v, %v) = %d, but they are merged to %v", a, b, there, v)
				}
			}
		}
	}
}

// P5.5: each vector has a text of its own, from which it is found again.
func TestParseInvertsText(t *testing.T) {
	texts := map[string]api.Vector{}
	for _, v := range slices.Concat(small(), valid(), long()) {
		s, e := vector.Text(v)
		if e != api.OK {
			continue
		}
		if other, is := texts[s]; is && !slices.Equal(other, v) {
			t.Fatalf("%v and %v have the text %q", v, other, s)
		}
		texts[s] = v
		if back, e := vector.Parse(s); !same(back, e, v, api.OK) {
			t.Fatalf("Parse(%q) = %v, %d, want %v", s, back, e, v)
		}
	}
	if len(texts) < 90 {
		t.Errorf("only %d vectors have a text", len(texts))
	}
}

// withRoom returns a copy of a vector, and the room in which it stands, which has more dots behind it.
func withRoom(v api.Vector) (given, room api.Vector) {
	room = append(slices.Clone(v), vec(63, 9, 64, 9, 1, 1, 0, 0, 65, 65)...)
	return room[:len(v)], room
}

// overwrite gives each dot of a vector, and of the room behind it, another value.
func overwrite(v api.Vector) {
	v = v[:cap(v)]
	for i := range v {
		v[i] = dotOf(v[i].Replica+1000, v[i].Counter-1000)
	}
}

// results returns what the functions that return vectors do with two of them.
func results(a, b api.Vector) []api.Vector {
	var l []api.Vector
	keep := func(v api.Vector, _ api.Errno) { l = append(l, v) }
	keep(vector.Of(a))
	keep(vector.Of(b))
	keep(vector.Raise(a, dotOf(5, 9)))
	keep(vector.Raise(a, dotOf(64, 1)))
	keep(vector.Raise(b, dotOf(1, 1)))
	keep(vector.Merge(a, b))
	keep(vector.Merge(b, a))
	keep(vector.Merge(a, nil))
	keep(vector.Merge(nil, b))
	s, _ := vector.Text(a)
	keep(vector.Parse(s))
	keep(vector.Parse("-"))
	keep(vector.Parse("1.2 3.7"))
	return l
}

// expectedResults returns what results has to return.
func expectedResults(a, b api.Vector) []api.Vector {
	var l []api.Vector
	keep := func(v api.Vector, _ api.Errno) { l = append(l, v) }
	keep(expectedOf(a))
	keep(expectedOf(b))
	keep(expectedRaise(a, dotOf(5, 9)))
	keep(expectedRaise(a, dotOf(64, 1)))
	keep(expectedRaise(b, dotOf(1, 1)))
	keep(expectedMerge(a, b))
	keep(expectedMerge(b, a))
	keep(expectedMerge(a, nil))
	keep(expectedMerge(nil, b))
	if l = append(l, nil); isValid(a) {
		l[len(l)-1] = a
	}
	return append(l, nil, vec(1, 2, 3, 7))
}

// The rule that arguments are not modified: neither their dots nor the room behind them.
func TestArgumentsStayAsTheyAre(t *testing.T) {
	pairs(func(a, b api.Vector) {
		givenA, roomA := withRoom(a)
		givenB, roomB := withRoom(b)
		beforeA, beforeB := slices.Clone(roomA), slices.Clone(roomB)
		vector.Valid(givenA)
		vector.Get(givenA, 3)
		vector.Has(givenA, dotOf(3, 7))
		vector.Order(givenA, givenB)
		vector.Text(givenB)
		results(givenA, givenB)
		if !slices.Equal(roomA, beforeA) || !slices.Equal(roomB, beforeB) {
			t.Fatalf("%v and %v became %v and %v", beforeA, beforeB, roomA, roomB)
		}
	})
}

// The rule that results share no memory: with the arguments, or with other results, of the same call or of a later one.
func TestResultsShareNoMemory(t *testing.T) {
	all := slices.Concat(small()[:40], valid(), long())
	for _, a := range all {
		for _, b := range all {
			want := expectedResults(slices.Clone(a), slices.Clone(b))
			givenA, roomA := withRoom(a)
			givenB, roomB := withRoom(b)
			first, second := results(givenA, givenB), results(givenA, givenB)
			overwrite(roomA)
			overwrite(roomB)
			for _, v := range first {
				overwrite(v)
			}
			results(mixed(40, 5), mixed(30, 6))
			for i, v := range second {
				if !slices.Equal(v, want[i]) {
					t.Fatalf("of %v and %v the result %d became %v, want %v", a, b, i, v, want[i])
				}
				// None of the results behind it has anything of this one either.
				overwrite(v)
			}
		}
	}
}

// What is done with results changes nothing of what was handed over, also if a vector comes out as it went in.
func TestResultsLeaveArgumentsAlone(t *testing.T) {
	for _, v := range slices.Concat(small(), valid(), long()) {
		given, room := withRoom(v)
		before := slices.Clone(room)
		for _, other := range []api.Vector{nil, given, mixed(20, 1)} {
			for _, result := range append(results(given, other), results(other, given)...) {
				overwrite(result)
			}
		}
		if !slices.Equal(room, before) {
			t.Fatalf("%v became %v", before, room)
		}
	}
}

// Nothing depends on earlier calls.
func TestEqualCallsHaveEqualResults(t *testing.T) {
	pairs(func(a, b api.Vector) {
		first := results(a, b)
		order, e := vector.Order(a, b)
		text, f := vector.Text(a)
		results(mixed(7, 2), b)
		vector.Order(b, mixed(7, 2))
		vector.Text(b)
		for i, v := range results(a, b) {
			if !slices.Equal(v, first[i]) {
				t.Fatalf("of %v and %v the result %d is %v, and then %v", a, b, i, first[i], v)
			}
		}
		if again, g := vector.Order(a, b); again != order || g != e {
			t.Fatalf("Order(%v, %v) = %d, %d, and then %d, %d", a, b, order, e, again, g)
		}
		if again, g := vector.Text(a); again != text || g != f {
			t.Fatalf("Text(%v) = %q, %d, and then %q, %d", a, text, f, again, g)
		}
	})
}

// P1: no call panics, whatever its arguments are.
func TestEveryCallReturns(t *testing.T) {
	for _, d := range edgeDots() {
		for _, v := range []api.Vector{nil, {d}, {d, d}, edgeDots(), full(), append(full(), d)} {
			vector.Valid(v)
			vector.Get(v, d.Replica)
			vector.Get(v, d.Counter)
			vector.Has(v, d)
			vector.Of(v)
			vector.Raise(v, d)
			vector.Merge(v, api.Vector{d})
			vector.Merge(api.Vector{d}, v)
			vector.Order(v, api.Vector{d})
			vector.Order(api.Vector{d}, v)
			vector.Text(v)
		}
	}
	for x := range 1 << 16 {
		s := string([]byte{byte(x >> 8), byte(x)})
		vector.Parse(s)
		vector.Parse("3.7" + s)
		vector.Parse(s + "3.7")
		vector.Parse("1.2" + s + "3.7")
	}
}
