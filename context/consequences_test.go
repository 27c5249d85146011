package context_test

import (
	"slices"
	"testing"

	"redpencil/api"
	"redpencil/context"
)

// united returns the union of two contexts, which must not fail.
func united(t *testing.T, a, b api.Context) api.Context {
	t.Helper()
	c, e := context.Union(a, b)
	if e != api.OK {
		t.Fatalf("Union(%v, %v) = %v, %d", a, b, c, e)
	}
	return c
}

// P6.5: Compact returns equal contexts just for those of which each has all dots of the other one.
func TestCompactTellsWhichDotsThereAre(t *testing.T) {
	alike := 0
	for _, a := range few() {
		for _, b := range few() {
			x, e := context.Compact(a)
			y, f := context.Compact(b)
			there, _ := expectedWithin(a, b)
			back, _ := expectedWithin(b, a)
			if is := context.Equal(x, y); is != (there && back) || e != api.OK || f != api.OK {
				t.Fatalf("Compact(%v) = %v, Compact(%v) = %v", a, x, b, y)
			}
			if there && back {
				alike++
			}
		}
	}
	if alike < 1000 {
		t.Errorf("only %d had the same dots", alike)
	}
}

// P6.5: and each context with the same dots that is compact is that one.
func TestThereIsOneCompactContext(t *testing.T) {
	found := map[string]api.Context{}
	for _, c := range valid() {
		if !context.IsCompact(c) {
			continue
		}
		has := ""
		for _, d := range crowd(3, 6, 1, 0) {
			if context.Has(c, d) {
				has += string(rune('A'+d.Replica)) + string(rune('0'+d.Counter))
			}
		}
		if other, is := found[has]; is && !equal(c, other) {
			t.Fatalf("%v and %v have the same dots", c, other)
		}
		found[has] = c
	}
	if len(found) < 100 {
		t.Errorf("only %d were compact", len(found))
	}
}

// P6.5
func TestCompactOfACompactContext(t *testing.T) {
	for _, c := range slices.Concat(few(), valid(), long()) {
		once, _ := context.Compact(c)
		again, e := context.Compact(once)
		if !same(again, e, once, api.OK) {
			t.Fatalf("Compact(%v) = %v, and then %v, %d", c, once, again, e)
		}
		if context.IsCompact(c) && !equal(once, c) {
			t.Fatalf("Compact(%v) = %v", c, once)
		}
	}
}

// P6.5: also what is refused does not depend on the order of the arguments.
func TestUnionHasNoOrder(t *testing.T) {
	pairs(func(a, b api.Context) {
		there, e := context.Union(a, b)
		back, f := context.Union(b, a)
		if !same(there, e, back, f) {
			t.Fatalf("Union(%v, %v) = %v, %d, the other way round %v, %d", a, b, there, e, back, f)
		}
	})
}

// P6.5
func TestUnionCanBeGrouped(t *testing.T) {
	for _, all := range [][]api.Context{thinned(few(), 5), append(thinned(valid(), 311), thinned(long(), 13)...)} {
		for _, a := range all {
			for _, b := range all {
				ab := united(t, a, b)
				for _, c := range all {
					first, last := united(t, ab, c), united(t, a, united(t, b, c))
					if !equal(first, last) {
						t.Fatalf("of %v, %v and %v the union is %v, or %v", a, b, c, first, last)
					}
				}
			}
		}
	}
}

// P6.5: the union has both contexts within itself, and is within whatever has both; with itself a context stays as it is, but compact.
func TestUnionHasNoMoreThanNeeded(t *testing.T) {
	all := thinned(few(), 4)
	within := func(a, b api.Context) bool {
		is, e := context.Within(a, b)
		return is && e == api.OK
	}
	for _, a := range all {
		alone, e := context.Compact(a)
		if again := united(t, a, a); !equal(again, alone) || e != api.OK {
			t.Fatalf("Union(%v, %v) = %v", a, a, again)
		}
		for _, b := range all {
			c := united(t, a, b)
			if !within(a, c) || !within(b, c) {
				t.Fatalf("Union(%v, %v) = %v lacks a dot", a, b, c)
			}
			for _, d := range all {
				if within(a, d) && within(b, d) && !within(c, d) {
					t.Fatalf("Union(%v, %v) = %v, but %v has both, too", a, b, c, d)
				}
			}
		}
	}
}

// P6.5: nor was anything that was there before lost.
func TestAfterAddNothingIsMissing(t *testing.T) {
	for _, c := range slices.Concat(few(), thinned(valid(), 37), thinned(long(), 5)) {
		for _, l := range lists() {
			sum, e := context.Add(c, l)
			if e != api.OK {
				continue
			}
			if lost := context.Missing(sum, slices.Concat(l, c.Vector, c.Cloud)); len(lost) > 0 {
				t.Fatalf("Add(%v, %v) = %v, in which %v are missing", c, l, sum, lost)
			}
			if more := context.Size(sum) - context.Size(c); more != uint64(len(context.Missing(c, l))) {
				t.Fatalf("Add(%v, %v) = %v, which are %d more", c, l, sum, more)
			}
		}
	}
}

// P6.3: dots that come one by one, in any order, make the same context as all of them at once.
func TestAddDotByDot(t *testing.T) {
	for _, l := range lists() {
		want, e := context.Of(l)
		if e != api.OK || len(l) > 60 {
			continue
		}
		back := slices.Clone(l)
		slices.Reverse(back)
		for _, order := range [][]api.Dot{l, back, sorted(l)} {
			var c api.Context
			for _, d := range order {
				if c, e = context.Add(c, []api.Dot{d}); e != api.OK {
					t.Fatalf("Add of %v: %d", d, e)
				}
			}
			if !equal(c, want) {
				t.Fatalf("dot by dot %v are %v, want %v", order, c, want)
			}
		}
	}
}

// room is where the dots of a context, or of a list, stand: with other dots behind them.
type room [][]api.Dot

// give returns a list of the same dots, which has more dots behind it.
func (r *room) give(l []api.Dot) []api.Dot {
	all := append(slices.Clone(l), dots("63.9 64.9 1.1 0.0 65.65")...)
	*r = append(*r, all)
	return all[:len(l)]
}

// giveContext returns a context with the same dots, whose parts have more dots behind them.
func (r *room) giveContext(c api.Context) api.Context {
	return api.Context{Vector: r.give(c.Vector), Cloud: r.give(c.Cloud)}
}

// copied returns what stands in a room, in memory of its own.
func (r room) copied() room {
	var out room
	for _, l := range r {
		out = append(out, slices.Clone(l))
	}
	return out
}

// equals reports whether the same dots stand in two rooms.
func (r room) equals(other room) bool {
	return slices.EqualFunc(r, other, func(a, b []api.Dot) bool { return slices.Equal(a, b) })
}

// overwrite gives each dot of a list, and of the room behind it, another value, which is not the old one again after the next time.
func overwrite(l []api.Dot) {
	l = l[:cap(l)]
	for i := range l {
		l[i] = dotOf(l[i].Replica+1000, l[i].Counter-1000)
	}
}

// results returns the lists that the functions make of two contexts and a list, a vector and a cloud for each context.
func results(a, b api.Context, l []api.Dot) [][]api.Dot {
	var out [][]api.Dot
	keep := func(c api.Context, _ api.Errno) { out = append(out, c.Vector, c.Cloud) }
	keep(context.Compact(a))
	keep(context.Compact(b))
	keep(context.Of(l))
	keep(context.Of(a.Cloud))
	keep(context.Of(b.Vector))
	keep(context.Add(a, l))
	keep(context.Add(b, a.Cloud))
	keep(context.Add(a, nil))
	keep(context.Union(a, b))
	keep(context.Union(b, a))
	keep(context.Union(a, a))
	keep(context.Union(a, api.Context{}))
	keep(context.Union(api.Context{}, b))
	return append(out, context.Missing(a, l), context.Missing(b, a.Cloud), context.Missing(api.Context{}, l), context.Missing(a, b.Vector))
}

// expectedResults returns what results has to return.
func expectedResults(a, b api.Context, l []api.Dot) [][]api.Dot {
	var out [][]api.Dot
	keep := func(c api.Context, _ api.Errno) { out = append(out, c.Vector, c.Cloud) }
	keep(expectedCompact(a))
	keep(expectedCompact(b))
	keep(expectedOf(l))
	keep(expectedOf(a.Cloud))
	keep(expectedOf(b.Vector))
	keep(expectedAdd(a, l))
	keep(expectedAdd(b, a.Cloud))
	keep(expectedAdd(a, nil))
	keep(expectedUnion(a, b))
	keep(expectedUnion(b, a))
	keep(expectedUnion(a, a))
	keep(expectedUnion(a, api.Context{}))
	keep(expectedUnion(api.Context{}, b))
	return append(out, expectedMissing(a, l), expectedMissing(b, a.Cloud), expectedMissing(api.Context{}, l), expectedMissing(a, b.Vector))
}

// triples calls f with contexts and lists, valid or not.
func triples(f func(a, b api.Context, l []api.Dot)) {
	all := slices.Concat(thinned(few(), 17), thinned(small(), 210), thinned(long(), 29), thinned(wrong(), 300))
	for _, a := range all {
		for i, b := range all {
			f(a, b, lists()[i%len(lists())])
		}
	}
}

// The rule that arguments are not modified: neither their dots nor the room behind them.
func TestArgumentsStayAsTheyAre(t *testing.T) {
	triples(func(a, b api.Context, l []api.Dot) {
		var r room
		givenA, givenB, given := r.giveContext(a), r.giveContext(b), r.give(l)
		before := r.copied()
		for _, c := range []api.Context{givenA, givenB} {
			context.Valid(c)
			context.IsCompact(c)
			context.Has(c, dotOf(1, 3))
			context.Size(c)
		}
		context.Equal(givenA, givenB)
		context.Within(givenA, givenB)
		context.Within(givenB, givenA)
		results(givenA, givenB, given)
		if !r.equals(before) {
			t.Fatalf("%v became %v", before, r)
		}
	})
}

// The rule that results share no memory: with the arguments, with each other, or with those of a later call.
func TestResultsShareNoMemory(t *testing.T) {
	triples(func(a, b api.Context, l []api.Dot) {
		var r room
		givenA, givenB, given := r.giveContext(a), r.giveContext(b), r.give(l)
		want := expectedResults(a, b, l)
		first, second := results(givenA, givenB, given), results(givenA, givenB, given)
		for _, argument := range r {
			overwrite(argument)
		}
		for _, result := range first {
			overwrite(result)
		}
		results(ctx("1.2 9.5 / 2.1 1.3 1.5"), ctx("1.7 3.2 / 5.5 5.7"), dots("1.9 1.8 1.1"))
		for i, result := range second {
			if !slices.Equal(result, want[i]) {
				t.Fatalf("of %v, %v and %v the result %d became %v, want %v", a, b, l, i, result, want[i])
			}
			// None of the results behind it has anything of this one either.
			overwrite(result)
		}
	})
}

// What is done with results changes nothing of what was handed over, also if a context comes out as it went in.
func TestResultsLeaveArgumentsAlone(t *testing.T) {
	for _, c := range slices.Concat(thinned(few(), 2), thinned(small(), 30), long(), thinned(wrong(), 30)) {
		var r room
		given, l := r.giveContext(c), r.give(dots("1.1 1.2 3.4"))
		before := r.copied()
		for _, other := range []api.Context{{}, given, ctx("1.1 / 1.9")} {
			for _, result := range append(results(given, other, l), results(other, given, l)...) {
				overwrite(result)
			}
		}
		if !r.equals(before) {
			t.Fatalf("%v became %v", before, r)
		}
	}
}

// Nothing depends on earlier calls.
func TestEqualCallsHaveEqualResults(t *testing.T) {
	triples(func(a, b api.Context, l []api.Dot) {
		first := results(a, b, l)
		within, e := context.Within(a, b)
		size, compact := context.Size(a), context.IsCompact(a)
		results(b, ctx("1.2 / 2.1 1.3 1.5"), dots("1.4 0.0"))
		context.Within(ctx("1.2 / -"), b)
		context.Size(b)
		context.IsCompact(b)
		for i, again := range results(a, b, l) {
			if !slices.Equal(again, first[i]) {
				t.Fatalf("of %v, %v and %v the result %d is %v, and then %v", a, b, l, i, first[i], again)
			}
		}
		if again, f := context.Within(a, b); again != within || f != e {
			t.Fatalf("Within(%v, %v) = %t, %d, and then %t, %d", a, b, within, e, again, f)
		}
		if context.Size(a) != size || context.IsCompact(a) != compact {
			t.Fatalf("%v has %d dots, and is compact: %t, and then otherwise", a, size, compact)
		}
	})
}

// P1: no call panics, whatever its arguments are.
func TestEveryCallReturns(t *testing.T) {
	for _, d := range edgeDots() {
		one := []api.Dot{d}
		for _, c := range []api.Context{{}, {Vector: one}, {Cloud: one}, {Vector: one, Cloud: one}, {Vector: edgeDots(), Cloud: edgeDots()}, {Vector: append(full(), d), Cloud: append(crowd(64, 23, 1, 0), d)}} {
			context.Valid(c)
			context.IsCompact(c)
			context.Has(c, d)
			context.Size(c)
			for _, other := range []api.Context{{}, {Vector: one}, {Cloud: one}, {Vector: full(), Cloud: one}} {
				context.Equal(c, other)
				context.Within(c, other)
				context.Within(other, c)
				results(c, other, one)
				results(other, c, edgeDots())
			}
		}
	}
}
