package context_test

import (
	"slices"
	"testing"

	"redpencil/api"
	"redpencil/context"
)

// P6.3: the examples of the chapter, and some more.
func TestOf(t *testing.T) {
	for s, want := range map[string]string{
		"1.3 1.1 2.2 1.2": "1.3 / 2.2", "-": "- / -", "1.1": "1.1 / -", "1.2": "- / 1.2", "1.1 1.1": "1.1 / -", "1.2 1.2": "- / 1.2", "1.5 1.1 1.3 1.2": "1.3 / 1.5", "64.1 1.1": "1.1 64.1 / -", "3.3 3.1 2.2 1.2": "3.1 / 1.2 2.2 3.3", "1.3 3.2": "- / 3.2 1.3", "1.1 1.2 1.3": "1.3 / -", "1.3 1.2 1.1": "1.3 / -", "2.1 1.2 2.1 1.2 2.2": "2.2 / 1.2", "64.4294967295 1.1": "1.1 / 64.4294967295",
	} {
		if c, e := context.Of(dots(s)); !same(c, e, ctx(want), api.OK) {
			t.Errorf("Of(%s) = %v, %d, want %s", s, c, e, want)
		}
	}
}

// P6.3: the examples of the chapter, and some more; the context need not be compact.
func TestAdd(t *testing.T) {
	for _, c := range []struct{ c, l, want string }{
		{"1.2 / 1.4", "1.3", "1.4 / none"}, {"- / -", "-", "- / -"}, {"1.2 / 1.4", "-", "1.2 / 1.4"}, {"1.2 / 1.3", "-", "1.3 / -"}, {"- / -", "1.1 1.2", "1.2 / -"}, {"1.2 / -", "1.1", "1.2 / -"}, {"1.2 / -", "1.2 1.1 1.2", "1.2 / -"}, {"1.2 / -", "1.5", "1.2 / 1.5"}, {"1.2 / 1.5", "1.5", "1.2 / 1.5"}, {"1.2 / 1.5 1.6", "1.4 1.3 1.9", "1.6 / 1.9"}, {"1.2 / 1.5", "2.2 2.1 1.4 1.4", "1.2 2.2 / 1.4 1.5"}, {"- / 1.2 1.3", "1.1", "1.3 / -"}, {"- / 2.2 1.3", "3.2 1.2", "- / 1.2 2.2 3.2 1.3"}, {"1.4294967294 / -", "1.4294967295", "1.4294967295 / -"},
	} {
		if got, e := context.Add(ctx(c.c), dots(c.l)); !same(got, e, ctx(c.want), api.OK) {
			t.Errorf("Add(%s, %s) = %v, %d, want %s", c.c, c.l, got, e, c.want)
		}
	}
}

// P6.3: the examples of the chapter, and some more; the contexts need not be compact.
func TestUnion(t *testing.T) {
	for _, c := range []struct{ a, b, want string }{
		{"1.2 / 1.4", "1.1 / 2.2 1.3", "1.4 / 2.2"}, {"- / -", "- / -", "- / -"}, {"1.2 / 1.4", "- / -", "1.2 / 1.4"}, {"- / -", "1.2 / 1.4", "1.2 / 1.4"}, {"1.2 / 1.4", "1.2 / 1.4", "1.2 / 1.4"}, {"1.2 / 1.4", "1.3 / -", "1.4 / -"}, {"1.2 / 1.4", "1.4 / -", "1.4 / -"}, {"1.2 / 1.4", "1.9 / -", "1.9 / -"}, {"1.2 / -", "3.7 / -", "1.2 3.7 / -"}, {"1.2 3.7 / -", "1.4 2.1 / -", "1.4 2.1 3.7 / -"}, {"1.2 / 2.3", "2.2 / 1.3", "1.3 2.3 / -"}, {"1.2 / 2.4", "2.2 / 1.4", "1.2 2.2 / 1.4 2.4"}, {"- / 1.1", "- / 1.2", "1.2 / -"}, {"- / 1.2 1.4", "- / 1.3 1.4", "- / 1.2 1.3 1.4"}, {"- / 1.2 1.4 1.6", "- / 1.1 1.3 1.5", "1.6 / -"}, {"1.1 / 1.1 1.2", "1.1 / 1.1 1.2", "1.2 / -"}, {"1.2 / 1.3", "- / -", "1.3 / -"}, {"- / 64.2", "- / 1.2", "- / 1.2 64.2"},
	} {
		if got, e := context.Union(ctx(c.a), ctx(c.b)); !same(got, e, ctx(c.want), api.OK) {
			t.Errorf("Union(%s, %s) = %v, %d, want %s", c.a, c.b, got, e, c.want)
		}
	}
}

// P6.3: contexts and dots that are not valid, wherever they stand.
func TestWhatMakesNoContext(t *testing.T) {
	for _, d := range edgeDots() {
		if isDot(d) {
			continue
		}
		for _, l := range [][]api.Dot{{d}, {d, dotOf(1, 1)}, {dotOf(1, 1), d}, {dotOf(1, 1), d, dotOf(1, 2)}, {d, d}, append(crowd(9, 9, 1, 0), d), append([]api.Dot{d}, crowd(9, 9, 1, 0)...)} {
			if c, e := context.Of(l); !same(c, e, api.Context{}, api.ErrArg) {
				t.Fatalf("Of(%v) = %v, %d", l, c, e)
			}
			for _, s := range []string{"- / -", "1.2 / 1.4", "2.1 1.1 / -"} {
				if c, e := context.Add(ctx(s), l); !same(c, e, api.Context{}, api.ErrArg) {
					t.Fatalf("Add(%s, %v) = %v, %d", s, l, c, e)
				}
			}
		}
	}
	for _, c := range wrong() {
		for _, s := range []string{"-", "1.1", "1.3 1.1 2.2 1.2", "64.4294967295"} {
			if got, e := context.Add(c, dots(s)); !same(got, e, api.Context{}, api.ErrArg) {
				t.Fatalf("Add(%v, %s) = %v, %d", c, s, got, e)
			}
		}
		for _, other := range []api.Context{{}, ctx("1.2 / 1.4"), {Vector: full()}, c} {
			there, e := context.Union(c, other)
			back, f := context.Union(other, c)
			if !same(there, e, api.Context{}, api.ErrArg) || !same(back, f, api.Context{}, api.ErrArg) {
				t.Fatalf("Union(%v, %v) = %v, %d, the other way round %v, %d", c, other, there, e, back, f)
			}
		}
	}
}

// P6.3
func TestSetsOfManyContexts(t *testing.T) {
	all := slices.Concat(thinned(small(), 5), few(), thinned(valid(), 23), thinned(long(), 7), thinned(wrong(), 9))
	for _, l := range lists() {
		want, err := expectedOf(l)
		if c, e := context.Of(l); !same(c, e, want, err) {
			t.Fatalf("Of(%v) = %v, %d, want %v, %d", l, c, e, want, err)
		}
		for _, c := range all {
			want, err := expectedAdd(c, l)
			if got, e := context.Add(c, l); !same(got, e, want, err) {
				t.Fatalf("Add(%v, %v) = %v, %d, want %v, %d", c, l, got, e, want, err)
			}
		}
	}
	for _, c := range all {
		want, err := expectedOf(c.Cloud)
		if got, e := context.Of(c.Cloud); !same(got, e, want, err) {
			t.Fatalf("Of(%v) = %v, %d, want %v, %d", c.Cloud, got, e, want, err)
		}
	}
	pairs(func(a, b api.Context) {
		want, err := expectedUnion(a, b)
		if c, e := context.Union(a, b); !same(c, e, want, err) {
			t.Fatalf("Union(%v, %v) = %v, %d, want %v, %d", a, b, c, e, want, err)
		}
	})
}

// P6.3: just the dots of the list, or of both contexts, are in what comes out, and it is compact.
func TestSetsHaveJustTheirDots(t *testing.T) {
	some := dots("1.1 1.2 1.3 1.4 1.5 2.1 3.1 3.2 3.3 3.4")
	for _, l := range subsets(some) {
		slices.Reverse(l)
		c, e := context.Of(l)
		if e != api.OK || !context.IsCompact(c) || context.Size(c) != uint64(len(l)) {
			t.Fatalf("Of(%v) = %v, %d", l, c, e)
		}
		for _, d := range some {
			if is := context.Has(c, d); is != slices.Contains(l, d) {
				t.Fatalf("Of(%v) = %v, which has %v: %t", l, c, d, is)
			}
		}
	}
	for _, a := range few() {
		for _, b := range few() {
			c, e := context.Union(a, b)
			sum, f := context.Add(a, b.Cloud)
			if e != api.OK || f != api.OK || !context.IsCompact(c) || !context.IsCompact(sum) {
				t.Fatalf("Union(%v, %v) = %v, %d, Add = %v, %d", a, b, c, e, sum, f)
			}
			for _, d := range some {
				if is := context.Has(c, d); is != (context.Has(a, d) || context.Has(b, d)) {
					t.Fatalf("Union(%v, %v) = %v, which has %v: %t", a, b, c, d, is)
				}
				if is := context.Has(sum, d); is != (context.Has(a, d) || slices.Contains(b.Cloud, d)) {
					t.Fatalf("Add(%v, %v) = %v, which has %v: %t", a, b.Cloud, sum, d, is)
				}
			}
		}
	}
}

// P6.4: the examples of the chapter, and some more; neither of the contexts need be compact.
func TestWithin(t *testing.T) {
	for _, c := range []struct {
		a, b string
		want bool
	}{
		{"1.2 / none", "- / 1.1 1.2", true}, {"1.2 / none", "- / 1.2", false}, {"- / none", "- / none", true},
		{"- / none", "1.2 / 1.4", true}, {"1.2 / 1.4", "- / none", false}, {"1.2 / 1.4", "1.2 / 1.4", true}, {"1.2 / 1.4", "1.4 / -", true}, {"1.4 / -", "1.2 / 1.4", false}, {"1.4 / -", "1.2 / 1.3 1.4", true}, {"1.2 / 1.4", "1.2 / 1.5", false}, {"1.2 / 1.4", "1.3 / 1.5", false}, {"- / 1.4", "1.2 / 1.4", true}, {"- / 1.3", "1.2 / 1.4", false}, {"- / 1.2", "1.2 / -", true}, {"- / 1.3", "1.2 / -", false}, {"- / 1.3", "1.2 / 1.3", true},
		// A last dot that is in the cloud behind a gap says nothing about those before it.
		{"1.4 / -", "- / 1.4", false}, {"1.4 / -", "1.2 / 1.4 1.5", false}, {"1.5 / -", "1.2 / 1.3 1.5", false}, {"1.5 / -", "1.4 / 1.5", true}, {"1.5 / -", "- / 1.1 1.2 1.3 1.4 1.5", true}, {"1.5 / -", "- / 1.1 1.3 1.4 1.5", false}, {"1.1 / -", "- / 1.1", true},
		// Several replicas.
		{"1.2 3.7 / -", "1.2 / -", false}, {"1.2 / -", "1.2 3.7 / -", true}, {"1.2 3.7 / -", "1.4 2.1 / -", false}, {"1.4 2.1 / -", "1.2 3.7 / -", false}, {"1.2 2.1 / 3.1", "1.2 3.1 / 2.1", true}, {"1.2 / 2.1 3.1", "1.2 3.1 / 2.1", true}, {"1.2 / 3.1 2.2", "1.2 3.1 / 2.1", false}, {"64.1 / -", "1.9 / 64.1", true}, {"1.1 64.1 / -", "- / 1.1 64.1", true},
		{"1.4294967295 / -", "1.4294967294 / 1.4294967295", true}, {"1.4294967295 / -", "1.4294967293 / 1.4294967295", false}, {"1.4294967295 / -", "1.4294967294 / -", false}, {"- / 1.4294967295", "1.4294967295 / -", true}, {"1.1 / -", "64.4294967295 / -", false},
	} {
		if is, e := context.Within(ctx(c.a), ctx(c.b)); is != c.want || e != api.OK {
			t.Errorf("Within(%s, %s) = %t, %d, want %t", c.a, c.b, is, e, c.want)
		}
	}
}

// P6.4
func TestWithinOfWhatIsNotValid(t *testing.T) {
	for _, c := range wrong() {
		for _, other := range []api.Context{{}, ctx("1.2 / 1.4"), {Vector: full()}, c} {
			there, e := context.Within(c, other)
			back, f := context.Within(other, c)
			if there || back || e != api.ErrArg || f != api.ErrArg {
				t.Fatalf("Within(%v, %v) = %t, %d, the other way round %t, %d", c, other, there, e, back, f)
			}
		}
	}
}

// P6.4: contexts whose counters are small enough for a question about each dot.
func TestWithinOfManyContexts(t *testing.T) {
	found := 0
	check := func(a, b api.Context) {
		want, err := expectedWithin(a, b)
		if is, e := context.Within(a, b); is != want || e != err {
			t.Fatalf("Within(%v, %v) = %t, %d, want %t, %d", a, b, is, e, want, err)
		}
		if want {
			found++
		}
	}
	more := slices.Concat(thinned(valid(), 11), thinned(small(), 13), thinned(wrong(), 60))
	for _, all := range [][]api.Context{few(), more} {
		for _, a := range all {
			for _, b := range all {
				check(a, b)
			}
		}
	}
	for _, c := range long() {
		if len(c.Vector) == 0 || c.Vector[0].Counter < 1000 {
			check(c, api.Context{Vector: full(), Cloud: crowd(64, 23, 2, 1)})
			check(c, c)
		}
	}
	if found < 5000 {
		t.Errorf("only %d were within", found)
	}
}

// P6.4: an example of the chapter, and some more; neither the context nor the list need be in order or valid.
func TestMissing(t *testing.T) {
	for _, c := range []struct{ c, l, want string }{
		{"1.2 / 1.4", "1.5 1.3 1.4", "1.3 1.5"}, {"- / -", "-", "-"}, {"1.2 / 1.4", "-", "-"}, {"- / -", "1.1", "1.1"}, {"- / -", "3.1 1.2 1.1 1.2", "1.1 3.1 1.2"}, {"1.2 / 1.4", "1.1 1.2 1.4", "-"}, {"1.2 / 1.4", "1.3 1.3 1.3", "1.3"}, {"1.2 / 1.4", "2.4 2.1 1.1", "2.1 2.4"}, {"1.2 / 2.4", "1.4 2.4 2.3 2.5 1.3", "1.3 2.3 1.4 2.5"}, {"1.5 / 1.3", "1.6 1.4", "1.6"}, {"64.4294967294 / -", "64.4294967295 64.4294967294", "64.4294967295"}, {"- / 64.4294967295", "64.4294967295 64.4294967294", "64.4294967294"},
		// Dots that are not valid are in no context, not even in one whose vector or cloud has them.
		{"1.2 / 1.4", "0.0", "0.0"}, {"1.2 / 1.4", "1.3 0.0 1.0 65.1 1.1", "0.0 1.0 65.1 1.3"}, {"- / 0.0", "0.0 0.0", "0.0"}, {"- / 65.1 1.4294967296", "1.4294967296 65.1", "65.1 1.4294967296"}, {"65.5 / -", "65.3", "65.3"}, {"1.2 / -", "1.-1 1.0", "1.-1 1.0"}, {"0.0 / 1.0", "1.0 0.0", "0.0 1.0"},
		// A context that is not valid still has its valid dots.
		{"- / 1.4 1.3", "1.3 1.4 1.5", "1.5"}, {"- / 1.9 1.7 1.5 1.3 1.1", "1.1 1.2 1.3 1.4 1.9", "1.2 1.4"}, {"- / 2.2 0.0 2.2 1.9 65.3 1.3", "1.3 1.9 2.2 2.3", "2.3"}, {"3.7 1.2 / -", "1.2 1.3 3.7 3.8", "1.3 3.8"}, {"1.2 1.9 / 1.5", "1.2 1.3 1.5", "1.3"}, {"1.9 1.2 / -", "1.3 1.10", "1.10"},
	} {
		if l := context.Missing(ctx(c.c), dots(c.l)); !slices.Equal(l, dots(c.want)) {
			t.Errorf("Missing(%s, %s) = %v, want %s", c.c, c.l, l, c.want)
		}
	}
}

// P6.4
func TestMissingOfManyContexts(t *testing.T) {
	for _, c := range slices.Concat(thinned(small(), 7), few(), thinned(valid(), 23), long(), thinned(wrong(), 9)) {
		for _, l := range append(lists(), c.Vector, c.Cloud) {
			if got, want := context.Missing(c, l), expectedMissing(c, l); !slices.Equal(got, want) {
				t.Fatalf("Missing(%v, %v) = %v, want %v", c, l, got, want)
			}
		}
	}
}

// P6.4: a long list against a long cloud, in order or not, is not a look at each dot of the cloud for each dot of the list.
func TestMissingFromALongCloud(t *testing.T) {
	const n = 100000
	var cloud, l, want []api.Dot
	for counter := n; counter > 0; counter-- {
		l = append(l, dotOf(7, counter))
		if counter%3 > 0 {
			cloud = append(cloud, dotOf(7, counter))
		} else {
			want = append(want, dotOf(7, counter))
		}
	}
	slices.Reverse(want)
	ordered := slices.Clone(cloud)
	slices.Reverse(ordered)
	for _, c := range []api.Context{{Cloud: cloud}, {Cloud: ordered}} {
		if got := context.Missing(c, l); !slices.Equal(got, want) {
			t.Fatalf("%d dots are missing, want %d", len(got), len(want))
		}
	}
}
