package context_test

import (
	"slices"
	"testing"

	"redpencil/api"
	"redpencil/context"
)

// equal reports whether two contexts are equal in all parts; whether a part without dots is nil or empty makes no difference.
func equal(a, b api.Context) bool {
	return slices.Equal(a.Vector, b.Vector) && slices.Equal(a.Cloud, b.Cloud)
}

// same reports whether a result is what is wanted.
func same(c api.Context, e api.Errno, want api.Context, err api.Errno) bool {
	return equal(c, want) && e == err
}

// P6.1: the examples of the chapter, and some more.
func TestIsCompact(t *testing.T) {
	for s, want := range map[string]bool{
		"1.2 / 1.4": true, "1.2 / 1.3": false, "- / none": true, "1.2 / none": true, "1.3 2.1 / 1.5": true, "- / 1.2 1.4": true, "1.5 / none": true,
		// Dots that are in the vector, wherever they stand in the cloud.
		"1.5 / 1.3": false, "1.5 / 1.5": false, "1.2 / 1.1 1.4": false, "1.2 / 1.2 1.4": false, "1.2 2.9 / 1.4 2.5 1.6": false, "1.2 2.9 / 1.4 1.6 2.9": false,
		// Dots that come directly behind it, also behind nothing.
		"- / 1.1": false, "- / 1.1 1.3": false, "- / 64.1": false, "1.2 / 2.1": false, "1.2 / 2.1 1.4": false, "1.2 2.9 / 1.4 2.10": false, "1.2 2.1 / 2.2 1.4": false,
		// Dots that come behind each other, but not behind the vector.
		"- / 1.2 1.3 1.4": true, "1.2 / 1.4 1.5": true, "1.2 / 2.2 1.4 1.5": true,
		// A replica says nothing about another one.
		"2.3 / 1.4": true, "2.3 / 1.3": true, "1.2 64.1 / 64.3 1.4": true,
		"1.4294967295 / -": true, "1.4294967295 / 1.4294967295": false, "1.4294967294 / 1.4294967295": false, "1.4294967293 / 1.4294967295": true, "- / 64.4294967295": true,
		// What is not valid is not compact.
		"2.1 1.1 / -": false, "1.1 1.2 / -": false, "0.0 / -": false, "65.1 / -": false, "1.4294967296 / -": false, "1.2 / 1.5 1.4": false, "1.2 / 1.4 1.4": false, "1.2 / 1.4 65.4": false, "- / 0.0": false, "- / 0.2": false, "- / 1.4294967296": false, "- / 65.2": false, "1.2 / 1.-4": false,
	} {
		if is := context.IsCompact(ctx(s)); is != want {
			t.Errorf("IsCompact(%s) = %t, want %t", s, is, want)
		}
	}
}

// P6.1
func TestIsCompactOfManyContexts(t *testing.T) {
	found := 0
	for _, c := range slices.Concat(small(), few(), valid(), long(), wrong()) {
		want := isValid(c) && takesIn(c) < 0
		if is := context.IsCompact(c); is != want {
			t.Fatalf("IsCompact(%v) = %t, want %t", c, is, want)
		}
		if want {
			found++
		}
	}
	if found < 200 {
		t.Errorf("only %d were compact", found)
	}
}

// P6.1: the examples of the chapter, and some more.
func TestCompact(t *testing.T) {
	for s, want := range map[string]string{
		"1.2 / 2.1 1.3 1.5": "1.3 2.1 / 1.5", "- / 1.2 1.4": "- / 1.2 1.4", "1.5 / 1.3": "1.5 / none", "- / none": "- / none", "1.2 / none": "1.2 / none", "1.2 / 1.4": "1.2 / 1.4", "1.2 / 1.3": "1.3 / none",
		// Dots that are in the vector.
		"1.2 / 1.1 1.2 1.4": "1.2 / 1.4", "1.5 / 1.1 1.2 1.3 1.4 1.5": "1.5 / none", "1.9 2.3 / 1.4 2.4 1.5 2.6 1.9": "1.9 2.4 / 2.6", "1.5 / 1.5 1.6": "1.6 / none", "1.5 / 1.5 1.7": "1.5 / 1.7",
		// Dots that come directly behind it, one after the other, up to the first gap.
		"- / 1.1": "1.1 / none", "- / 1.1 1.2 1.3": "1.3 / none", "1.2 / 1.3 1.4 1.5 1.6": "1.6 / none", "1.2 / 1.3 1.4 1.6 1.7": "1.4 / 1.6 1.7", "1.2 / 1.4 1.5 1.6": "1.2 / 1.4 1.5 1.6", "1.2 / 1.3 1.5 1.7": "1.3 / 1.5 1.7", "1.1 / 1.1 1.2 1.3 1.5": "1.3 / 1.5",
		// Several replicas, each with its own gaps.
		"- / 1.1 2.1 3.1 1.2 3.2 1.3": "1.3 2.1 3.2 / none", "- / 64.1 1.2": "64.1 / 1.2", "2.1 / 1.1 1.2 2.3": "1.2 2.1 / 2.3", "1.2 3.7 / 2.1 3.6 3.8 2.9": "1.2 2.1 3.8 / 2.9", "1.1 / 3.1 1.2 2.2 3.2 2.3 1.4": "1.2 3.2 / 2.2 2.3 1.4", "5.5 / 5.6 6.6 5.7 6.7": "5.7 / 6.6 6.7",
		"1.4294967295 / 1.4294967295": "1.4294967295 / none", "1.4294967294 / 1.4294967295": "1.4294967295 / none", "1.4294967293 / 1.4294967295": "1.4294967293 / 1.4294967295", "1.4294967293 / 1.4294967294 1.4294967295": "1.4294967295 / none", "- / 64.4294967295": "- / 64.4294967295",
	} {
		if c, e := context.Compact(ctx(s)); !same(c, e, ctx(want), api.OK) {
			t.Errorf("Compact(%s) = %v, %d, want %s", s, c, e, want)
		}
	}
}

// P6.1
func TestCompactOfWhatIsNotValid(t *testing.T) {
	l := wrong()
	for _, s := range []string{"1.2 / 1.4 1.3", "2.1 1.1 / -", "1.2 1.2 / -", "1.2 1.3 / -", "0.0 / -", "0.1 / -", "1.0 / -", "65.1 / -", "1.4294967296 / -", "- / 0.0", "- / 0.0 1.1", "- / 1.0 1.1", "- / 0.1 1.1", "- / 1.1 1.1", "- / 1.2 1.1", "- / 1.1 65.1", "- / 1.1 1.4294967296", "1.4294967295 / 1.4294967296", "1.2 / 1.3 1.3", "1.2 / -1.1", "1.2 / 1.-1"} {
		l = append(l, ctx(s))
	}
	for _, c := range l {
		if got, e := context.Compact(c); !same(got, e, api.Context{}, api.ErrArg) {
			t.Fatalf("Compact(%v) = %v, %d", c, got, e)
		}
	}
}

// P6.1
func TestCompactOfManyContexts(t *testing.T) {
	for _, c := range slices.Concat(small(), few(), valid(), long(), wrong()) {
		want, err := expectedCompact(c)
		if got, e := context.Compact(c); !same(got, e, want, err) {
			t.Fatalf("Compact(%v) = %v, %d, want %v, %d", c, got, e, want, err)
		}
	}
}

// P6.1: what Compact returns is compact, and the dots that are in it are the same.
func TestCompactKeepsTheDots(t *testing.T) {
	for _, c := range slices.Concat(few(), valid(), long()) {
		got, e := context.Compact(c)
		if e != api.OK || !context.IsCompact(got) || context.Size(got) != context.Size(c) {
			t.Fatalf("Compact(%v) = %v, %d, with %d dots", c, got, e, context.Size(got))
		}
		for _, d := range slices.Concat(c.Vector, c.Cloud, got.Vector, got.Cloud, dots("1.1 1.2 1.3 1.4 1.5 1.6 2.1 2.2 2.3 2.4 2.5 2.6 3.1")) {
			if is := context.Has(got, d); is != context.Has(c, d) {
				t.Fatalf("Compact(%v) = %v, which has %v: %t", c, got, d, is)
			}
		}
	}
}

// P6.1: a cloud of many dots needs no more than one look at each.
func TestCompactOfALongCloud(t *testing.T) {
	const n = 300000
	var cloud []api.Dot
	for counter := 1; counter <= n; counter++ {
		cloud = append(cloud, dotOf(1, counter))
		if counter > 1 {
			cloud = append(cloud, dotOf(64, counter))
		}
	}
	c, e := context.Compact(api.Context{Cloud: cloud})
	if !slices.Equal(c.Vector, api.Vector{dotOf(1, n)}) || len(c.Cloud) != n-1 || e != api.OK {
		t.Fatalf("there are %v and %d dots, %d", c.Vector, len(c.Cloud), e)
	}
	for i, d := range c.Cloud {
		if d != dotOf(64, i+2) {
			t.Fatalf("the dot %d of the cloud is %v", i, d)
		}
	}
	if c, e = context.Add(c, dots("64.1")); len(c.Cloud) != 0 || !slices.Equal(c.Vector, api.Vector{dotOf(1, n), dotOf(64, n)}) || e != api.OK {
		t.Fatalf("and then %v and %d dots, %d", c.Vector, len(c.Cloud), e)
	}
}
