package digest_test

import (
	"math"
	"slices"
	"testing"

	"redpencil/api"
	"redpencil/digest"
)

// P16.1: the examples of the chapter, and some more.
func TestValid(t *testing.T) {
	for _, c := range []struct {
		d     string
		valid bool
	}{
		{"1.1 / 1.2 and - / -", false}, {"1.1 / - and 2.1 / -", false},
		{"- / - and - / -", true}, {chapterOf, true}, {"1.1 / - and 1.1 / -", true}, {"1.1 2.1 / 1.3 and 1.1 2.1 / 1.3", true}, {"1.9 3.9 / 2.3 2.9 and 1.2 / 3.4 2.9", true},
		// Dots of Gone stand elsewhere than in All: a cloud in a vector, or a part of it.
		{"1.5 / - and - / 1.3", true}, {"1.5 / - and 1.1 / 1.3 1.5", true}, {"1.5 / - and - / 1.6", false}, {"1.5 / - and 1.6 / -", false}, {"1.5 / 1.7 and 1.3 / 1.5 1.7", true}, {"1.5 / 1.7 and 1.3 / 1.5 1.8", false}, {"1.5 / 1.7 and - / 1.6", false}, {"1.5 / 1.7 1.8 1.9 and 1.4 / 1.7 1.9", true},
		{"64.4294967295 / - and - / 64.4294967295", true}, {"- / 64.4294967295 and - / 64.4294967295", true}, {"- / 64.4294967295 and - / 64.4294967294", false}, {"- / 64.4294967295 and 64.4294967295 / -", false}, {"1.4294967295 / - and 1.4294967295 / -", true}, {"1.4294967294 / - and 1.4294967295 / -", false},
		// Each of both is valid and compact.
		{"2.1 1.1 / - and - / -", false}, {"1.1 1.1 / - and - / -", false}, {"0.1 / - and - / -", false}, {"1.0 / - and - / -", false}, {"65.1 / - and - / -", false}, {"1.4294967296 / - and - / -", false}, {"- / 1.3 1.2 and - / -", false}, {"- / 1.3 1.3 and - / -", false}, {"- / 65.3 and - / -", false}, {"1.3 / 1.2 and - / -", false}, {"- / 1.1 and - / -", false}, {"1.3 / 2.1 and - / -", false},
		{"1.5 2.5 / - and 2.1 1.1 / -", false}, {"1.5 2.5 / - and 1.1 1.1 / -", false}, {"1.5 / - and 0.1 / -", false}, {"1.5 / - and 1.0 / -", false}, {"1.5 / - and - / 1.3 1.2", false}, {"1.5 / - and - / 1.3 1.3", false}, {"1.5 / - and - / 1.0", false}, {"1.5 / - and 1.3 / 1.2", false}, {"1.5 / - and - / 1.1", false}, {"1.5 / - and 1.3 / 1.4", false},
	} {
		if is := digest.Valid(dig(c.d)); is != c.valid {
			t.Errorf("Valid(%s) = %t", c.d, is)
		}
	}
}

// P16.1
func TestValidOfMany(t *testing.T) {
	for _, d := range digests() {
		if !isDigest(d) || !digest.Valid(d) {
			t.Errorf("Valid(%v) = false", d)
		}
	}
	for _, d := range noDigests() {
		if isDigest(d) || digest.Valid(d) {
			t.Errorf("Valid(%v) = true", d)
		}
	}
}

// P16.1: each valid and compact context as All, each one as Gone.
func TestValidOfAllPairsOfContexts(t *testing.T) {
	contexts := noContexts()
	for _, d := range some() {
		contexts = append(contexts, d.All, d.Gone)
	}
	valid := 0
	for _, all := range contexts {
		for _, gone := range contexts {
			d := api.Digest{All: all, Gone: gone}
			want := isDigest(d)
			if is := digest.Valid(d); is != want {
				t.Fatalf("Valid(%v) = %t", d, is)
			}
			if want {
				valid++
			}
		}
	}
	if valid < 1000 {
		t.Errorf("only %d were valid", valid)
	}
}

// P16.1: any digests, valid or not, in all parts.
func TestEqual(t *testing.T) {
	for _, c := range []struct {
		a, b  string
		equal bool
	}{
		{"- / - and - / -", "- / - and - / -", true}, {chapterOf, chapterOf, true}, {chapterOf, "- / - and - / -", false},
		{chapterOf, "1.1 2.1 / 1.4 and 2.1 / -", false}, {chapterOf, "1.1 2.1 / 3.3 and 2.1 / -", false}, {chapterOf, "1.1 2.2 / 1.3 and 2.1 / -", false}, {chapterOf, "1.1 2.1 / 1.3 and 2.2 / -", false}, {chapterOf, "1.1 2.1 / 1.3 and 1.1 / -", false}, {chapterOf, "1.1 2.1 / 1.3 and 2.1 / 1.3", false}, {chapterOf, "1.1 2.1 / 1.3 and - / -", false}, {chapterOf, "1.1 2.1 / - and 2.1 / -", false}, {chapterOf, "1.1 / 1.3 and 2.1 / -", false}, {chapterOf, "1.1 2.1 / 1.3 1.5 and 2.1 / -", false},
		// One part is not taken for another one.
		{"1.1 / - and - / -", "- / 1.1 and - / -", false}, {"1.1 / - and - / -", "- / - and 1.1 / -", false}, {"1.1 / - and 2.1 / -", "2.1 / - and 1.1 / -", false}, {"- / 1.1 and - / -", "- / - and - / 1.1", false}, {"- / - and 1.1 / -", "- / - and - / 1.1", false},
		// What is not valid is compared as it is, also if the dots are the same.
		{"1.1 1.2 / - and - / -", "1.2 / - and - / -", false}, {"1.1 2.1 / - and - / -", "2.1 1.1 / - and - / -", false}, {"2.1 1.1 / - and - / -", "2.1 1.1 / - and - / -", true}, {"- / 1.3 1.3 and - / -", "- / 1.3 and - / -", false}, {"- / 1.3 1.3 and 9.9 / 1.1 1.1", "- / 1.3 1.3 and 9.9 / 1.1 1.1", true}, {"- / 1.3 1.2 and - / -", "- / 1.2 1.3 and - / -", false}, {"0.1 65.1 / 0.0 and -1.1 / 1.-1", "0.1 65.1 / 0.0 and -1.1 / 1.-1", true}, {"0.1 / - and - / -", "0.2 / - and - / -", false}, {"- / - and - / 65.1", "- / - and - / 66.1", false}, {"1.2 / - and - / -", "1.1 / 1.2 and - / -", false},
	} {
		if is, back := digest.Equal(dig(c.a), dig(c.b)), digest.Equal(dig(c.b), dig(c.a)); is != c.equal || back != c.equal {
			t.Errorf("Equal(%s, %s) = %t, and the other way round %t", c.a, c.b, is, back)
		}
	}
	end := api.Digest{All: api.Context{Vector: api.Vector{at(math.MaxInt, math.MinInt)}, Cloud: []api.Dot{at(math.MinInt, math.MaxInt)}}}
	if !digest.Equal(end, api.Digest{All: api.Context{Vector: slices.Clone(end.All.Vector), Cloud: slices.Clone(end.All.Cloud)}}) || digest.Equal(end, api.Digest{}) {
		t.Error("digests at the ends of all numbers are not compared as they should be")
	}
	empty := api.Digest{All: api.Context{Vector: api.Vector{}, Cloud: []api.Dot{}}, Gone: api.Context{Vector: api.Vector{}, Cloud: []api.Dot{}}}
	if !digest.Equal(empty, api.Digest{}) || !digest.Equal(api.Digest{}, empty) {
		t.Error("nil and empty are not the same")
	}
}

// P16.1: each digest against each other one.
func TestEqualOfMany(t *testing.T) {
	all := append(some(), noDigests()...)
	for i, a := range all {
		for k, b := range all {
			if is := digest.Equal(a, copied(b)); is != isSame(a, b) || i == k && !is {
				t.Fatalf("Equal(%v, %v) = %t", a, b, is)
			}
		}
	}
}

// P16.1: the example of the chapter, and some more: no nodes, one, only dead ones and only living ones, gaps, and dots at their limits.
func TestOf(t *testing.T) {
	for s, want := range map[string]string{
		chapter: chapterOf, "": "- / - and - / -",
		"1.1 root 1 U+0061": "1.1 / - and - / -", "1.1 root 1 -": "1.1 / - and 1.1 / -", "1.2 root 1 U+0061": "- / 1.2 and - / -", "1.2 root 1 -": "- / 1.2 and - / 1.2", "64.4294967295 root 4611686018427387904 U+10FFFF": "- / 64.4294967295 and - / -", "64.4294967295 root 4611686018427387904 -": "- / 64.4294967295 and - / 64.4294967295",
		"1.1 root 1 -, 2.1 1.1 2 -, 1.2 1.1 3 -": "1.2 2.1 / - and 1.2 2.1 / -", "1.1 root 1 U+0061, 2.1 1.1 2 U+0062, 1.2 1.1 3 U+0063": "1.2 2.1 / - and - / -",
		// The dead ones have gaps of their own.
		"1.1 root 1 U+0061, 1.2 1.1 2 -, 1.3 1.2 3 U+0063, 1.4 1.3 4 -": "1.4 / - and - / 1.2 1.4", "1.1 root 1 -, 1.2 1.1 2 -, 1.3 1.2 3 U+0063, 1.4 1.3 4 -": "1.4 / - and 1.2 / 1.4", "1.2 root 1 -, 3.2 1.2 2 U+0062, 2.3 1.2 2 -, 1.4 root 1 -": "- / 1.2 3.2 2.3 1.4 and - / 1.2 2.3 1.4", "1.1 root 1 U+0061, 64.1 root 1 -, 1.3 9.9 1 -, 64.3 9.9 1 U+0062": "1.1 64.1 / 1.3 64.3 and 64.1 / 1.3",
		// Parts of whole states, with lost nodes, are states, too.
		"1.1 1.2 1 -, 1.2 1.1 1 U+0061": "1.2 / - and 1.1 / -",
	} {
		if d, e := digest.Of(of(s)); !isSame(d, dig(want)) || e != api.OK {
			t.Errorf("Of(%s) = %v, %d, want %s", s, d, e, want)
		}
	}
}

// P16.1: a digest of a state is valid, it has the dots of its nodes, and of the dead ones, and no others; and the errors.
func TestOfMany(t *testing.T) {
	for _, s := range slices.Concat(states(), small(), noStates()) {
		want, err := expectedOf(s)
		d, e := digest.Of(s)
		if !isSame(d, want) || e != err || !digest.Valid(d) {
			t.Fatalf("Of(%v) = %v, %d, want %v, %d", s, d, e, want, err)
		}
		for _, d := range near(d.All, d.Gone, want.All) {
			at := slices.IndexFunc(s, func(n api.Node) bool { return n.Dot == d })
			if has(want.All, d) != (at >= 0) || has(want.Gone, d) != (at >= 0 && s[at].Rune == 0) {
				t.Fatalf("Of(%v) = %v is wrong about %v", s, want, d)
			}
		}
	}
}

// P16.1: what is no store, for each reason.
func TestOfErrors(t *testing.T) {
	for _, s := range noStates() {
		if d, e := digest.Of(s); !isSame(d, api.Digest{}) || e != api.ErrArg {
			t.Fatalf("Of(%v) = %v, %d", s, d, e)
		}
	}
	for _, s := range []string{"2.1 root 1 U+0061, 1.1 root 1 U+0061", "1.1 root 1 U+0061, 1.1 root 1 U+0061", "1.1 root 1 -, 1.1 root 1 U+0061", "0.0 root 1 -", "1.1 root 0 -", "1.1 1.1 1 -", "1.1 root 1 U+D800", "1.1 root 1 U+0061, 1.2 65.1 2 -", "1.1 root 4611686018427387905 -"} {
		if d, e := digest.Of(of(s)); !isSame(d, api.Digest{}) || e != api.ErrArg {
			t.Errorf("Of(%s) = %v, %d", s, d, e)
		}
	}
}
