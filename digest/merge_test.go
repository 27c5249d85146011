package digest_test

import (
	"testing"

	"redpencil/api"
	"redpencil/digest"
)

// P16.3: the example of the chapter, and some more: the empty digest, the same twice, one within the other, gaps that are filled, and limits.
func TestMerge(t *testing.T) {
	const none = "- / - and - / -"
	for _, c := range []struct{ a, b, want string }{
		{"1.1 / - and - / -", "- / 1.2 and - / 1.2", "1.2 / - and - / 1.2"},
		{none, none, none}, {chapterOf, none, chapterOf}, {chapterOf, chapterOf, chapterOf}, {chapterOf, "1.1 / - and - / -", chapterOf}, {chapterOf, "1.3 2.1 / - and 1.3 / -", "1.3 2.1 / - and 1.3 2.1 / -"}, {chapterOf, "2.2 / 1.3 and 2.2 / -", "1.1 2.2 / 1.3 and 2.2 / -"},
		// Gaps are filled in one of both, in the other one, or in none.
		{"1.1 / 1.3 and 1.1 / 1.3", "- / 1.2 and - / -", "1.3 / - and 1.1 / 1.3"}, {"1.3 / - and 1.1 / 1.3", "1.2 / - and - / 1.2", "1.3 / - and 1.3 / -"}, {"- / 1.2 2.2 1.4 and - / 2.2", "1.1 2.1 / 2.3 and 2.1 / -", "1.2 2.3 / 1.4 and 2.2 / -"}, {"- / 1.3 and - / 1.3", "- / 1.2 and - / 1.2", "- / 1.2 1.3 and - / 1.2 1.3"}, {"1.2 / - and - / -", "2.2 / 3.3 and - / 3.3", "1.2 2.2 / 3.3 and - / 3.3"}, {"1.9 / - and - / 1.5", "- / 1.5 and - / -", "1.9 / - and - / 1.5"},
		{"64.4294967294 / - and 64.1 / -", "- / 64.4294967295 and - / 64.4294967295", "64.4294967295 / - and 64.1 / 64.4294967295"}, {"64.4294967293 / - and - / -", "- / 64.4294967295 and - / -", "64.4294967293 / 64.4294967295 and - / -"}, {"1.4294967295 / - and 1.4294967295 / -", "64.4294967295 / - and - / -", "1.4294967295 64.4294967295 / - and 1.4294967295 / -"},
	} {
		for _, p := range [][2]string{{c.a, c.b}, {c.b, c.a}} {
			if d, e := digest.Merge(dig(p[0]), dig(p[1])); !isSame(d, dig(c.want)) || e != api.OK {
				t.Errorf("Merge(%s, %s) = %v, %d, want %s", p[0], p[1], d, e, c.want)
			}
		}
	}
}

// P16.3: the example of the chapter, and some more: equal digests, one within the other, neither, All alone, Gone alone; and gaps.
func TestWithin(t *testing.T) {
	const none = "- / - and - / -"
	for _, c := range []struct {
		a, b        string
		there, back bool
	}{
		{none, chapterOf, true, false}, {none, none, true, true}, {chapterOf, chapterOf, true, true}, {chapterOf, "1.3 2.1 / - and 2.1 / -", true, false}, {chapterOf, "1.1 2.1 / 1.3 and 2.1 / 1.3", true, false}, {chapterOf, "1.1 2.1 / 1.3 and 1.1 2.1 / 1.3", true, false},
		// All is within, and Gone is not, or the other way round.
		{"1.1 / - and 1.1 / -", "1.2 / - and - / -", false, false}, {"1.2 / - and - / -", "1.1 / - and 1.1 / -", false, false}, {"1.1 / - and 1.1 / -", "1.1 / - and - / -", false, true}, {"1.2 / - and 1.1 / -", "1.1 / - and 1.1 / -", false, true}, {"1.2 / - and 1.1 / -", "1.2 / - and - / 1.2", false, false}, {"1.2 / - and 1.1 / -", "1.3 / - and - / 1.2 1.3", false, false},
		// Neither is.
		{"1.1 / - and 1.1 / -", "2.1 / - and 2.1 / -", false, false}, {"1.1 / 1.3 and - / -", "1.2 / - and - / -", false, false}, {"1.1 2.2 / - and - / -", "1.2 2.1 / - and - / -", false, false},
		// What stands in a cloud stands in a vector, too.
		{"- / 1.2 and - / 1.2", "1.3 / - and 1.2 / -", true, false}, {"- / 1.2 and - / 1.2", "1.3 / - and 1.1 / 1.3", false, false}, {"- / 1.2 1.4 and - / -", "1.1 / 1.4 and - / -", false, false}, {"- / 1.2 1.4 and - / -", "1.2 / 1.4 and - / -", true, false}, {"1.1 / - and - / -", "- / 1.2 and - / -", false, false},
		{"64.4294967295 / - and - / -", "64.4294967294 / - and - / -", false, true}, {"- / 64.4294967295 and - / -", "64.4294967295 / - and 64.4294967295 / -", true, false}, {"- / 64.4294967295 and - / 64.4294967295", "64.4294967295 / - and 64.4294967294 / -", false, false},
	} {
		there, e := digest.Within(dig(c.a), dig(c.b))
		back, f := digest.Within(dig(c.b), dig(c.a))
		if there != c.there || back != c.back || e != api.OK || f != api.OK {
			t.Errorf("Within(%s, %s) = %t, %d, and the other way round %t, %d", c.a, c.b, there, e, back, f)
		}
	}
}

// P16.3: each digest with each other one; and what a merged digest has.
func TestMergeAndWithinOfMany(t *testing.T) {
	seen := map[bool]int{}
	for _, a := range some() {
		for _, b := range digests() {
			want, err := expectedMerge(a, b)
			d, e := digest.Merge(a, b)
			if !isSame(d, want) || e != err || !digest.Valid(d) {
				t.Fatalf("Merge(%v, %v) = %v, %d, want %v, %d", a, b, d, e, want, err)
			}
			for _, dot := range near(a.All, b.All, a.Gone, b.Gone, d.All, d.Gone) {
				if has(d.All, dot) != (has(a.All, dot) || has(b.All, dot)) || has(d.Gone, dot) != (has(a.Gone, dot) || has(b.Gone, dot)) {
					t.Fatalf("Merge(%v, %v) = %v is wrong about %v", a, b, d, dot)
				}
			}
			for _, p := range [][2]api.Digest{{a, b}, {b, a}, {a, d}, {d, b}} {
				in, err := expectedWithin(p[0], p[1])
				if is, e := digest.Within(p[0], p[1]); is != in || e != err {
					t.Fatalf("Within(%v, %v) = %t, %d, want %t, %d", p[0], p[1], is, e, in, err)
				}
				seen[in]++
			}
		}
	}
	if seen[true] < 10000 || seen[false] < 10000 {
		t.Errorf("of digests within others there were %v", seen)
	}
}

// P16.3: digests that are not valid, as the first argument, the second one, or both.
func TestMergeAndWithinErrors(t *testing.T) {
	refused := func(a, b api.Digest) {
		t.Helper()
		d, e := digest.Merge(a, b)
		is, f := digest.Within(a, b)
		if !isSame(d, api.Digest{}) || e != api.ErrArg || is || f != api.ErrArg {
			t.Fatalf("Merge(%v, %v) = %v, %d, and Within = %t, %d", a, b, d, e, is, f)
		}
	}
	wrong := noDigests()
	for i, bad := range wrong {
		for _, good := range []api.Digest{{}, dig(chapterOf), {All: bad.All}, {All: everything(), Gone: everything()}} {
			if isDigest(good) {
				refused(bad, good)
				refused(good, bad)
			}
		}
		refused(bad, bad)
		refused(bad, wrong[(i*i+7)%len(wrong)])
	}
}
