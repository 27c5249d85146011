package digest_test

import (
	"slices"
	"testing"

	"redpencil/api"
	"redpencil/digest"
)

// P16.2: the examples of the chapter.
func TestDiffOfTheChapter(t *testing.T) {
	s := of(chapter)
	for d, want := range map[string]string{
		chapterOf: "", "- / - and - / -": chapter,
		"1.1 2.1 / - and - / -": "2.1 1.1 2 -, 1.3 1.1 3 U+0063", "1.1 / 1.3 and - / -": "2.1 1.1 2 -", "1.3 2.1 / - and 1.3 / -": "2.1 1.1 2 -",
	} {
		if got, e := digest.Diff(s, dig(d)); !slices.Equal(got, of(want)) || e != api.OK {
			t.Errorf("Diff(s, %s) = %v, %d, want %s", d, got, e, want)
		}
	}
}

// P16.2: nodes that are unknown, known as nodes alone, and known as dead; digests that have more than the state, or say that living nodes are dead; gaps, and limits.
func TestDiff(t *testing.T) {
	const gaps = "1.1 root 1 -, 64.1 root 1 U+0061, 1.3 1.1 2 -, 1.4 1.3 3 U+0062, 64.4 64.1 2 -, 1.6 1.4 4 -"
	const far = "1.4294967294 root 1 U+0061, 64.4294967295 root 4611686018427387904 -"
	for _, c := range []struct{ s, d, want string }{
		{"", "- / - and - / -", ""}, {"", chapterOf, ""}, {"", "1.9 64.4294967295 / - and - / 1.7", ""},
		{"1.1 root 1 U+0061", "- / - and - / -", "1.1 root 1 U+0061"}, {"1.1 root 1 U+0061", "1.1 / - and - / -", ""}, {"1.1 root 1 U+0061", "1.1 / - and 1.1 / -", ""}, {"1.1 root 1 U+0061", "2.1 / 1.2 and - / 1.2", "1.1 root 1 U+0061"},
		{"1.1 root 1 -", "- / - and - / -", "1.1 root 1 -"}, {"1.1 root 1 -", "1.1 / - and - / -", "1.1 root 1 -"}, {"1.1 root 1 -", "1.1 / - and 1.1 / -", ""}, {"1.1 root 1 -", "1.2 2.1 / - and 2.1 / 1.2", "1.1 root 1 -"}, {"1.2 root 1 -", "1.3 / - and - / 1.2", ""}, {"1.2 root 1 -", "- / 1.2 and - / -", "1.2 root 1 -"},
		{gaps, "- / - and - / -", gaps}, {gaps, "1.9 64.9 / - and 1.9 64.9 / -", ""}, {gaps, "1.9 64.9 / - and - / -", "1.1 root 1 -, 1.3 1.1 2 -, 64.4 64.1 2 -, 1.6 1.4 4 -"}, {gaps, "1.9 64.9 / - and - / 1.3 64.4", "1.1 root 1 -, 1.6 1.4 4 -"}, {gaps, "1.1 / 1.4 64.4 and - / 64.4", "1.1 root 1 -, 64.1 root 1 U+0061, 1.3 1.1 2 -, 1.6 1.4 4 -"}, {gaps, "1.4 / - and 1.3 / -", "64.1 root 1 U+0061, 64.4 64.1 2 -, 1.6 1.4 4 -"}, {gaps, "1.1 64.1 / 1.3 1.4 64.4 1.6 and 1.1 / 1.3 64.4 1.6", ""}, {gaps, "1.1 64.1 / 1.3 1.4 64.4 1.6 and 1.1 / 1.3 1.6", "64.4 64.1 2 -"}, {gaps, "2.9 63.9 / 1.2 1.5 64.5 and - / -", gaps},
		{far, "1.4294967294 / 64.4294967295 and - / -", "64.4294967295 root 4611686018427387904 -"}, {far, "1.4294967295 64.4294967294 / - and 64.4294967294 / -", "64.4294967295 root 4611686018427387904 -"}, {far, "1.4294967293 / 64.4294967295 and - / 64.4294967295", "1.4294967294 root 1 U+0061"}, {far, "1.4294967294 64.4294967295 / - and 64.4294967295 / -", ""}, {far, "- / 1.4294967293 1.4294967295 64.4294967295 and - / -", far},
	} {
		if got, e := digest.Diff(of(c.s), dig(c.d)); !slices.Equal(got, of(c.want)) || e != api.OK {
			t.Errorf("Diff(%s, %s) = %v, %d, want %s", c.s, c.d, got, e, c.want)
		}
	}
}

// P16.2: states of all kinds against digests of all kinds: their own, those of others, and such that are not those of any of them.
func TestDiffOfMany(t *testing.T) {
	sizes := map[int]int{}
	check := func(s api.State, d api.Digest) {
		want, err := expectedDiff(s, d)
		got, e := digest.Diff(s, d)
		if !slices.Equal(got, want) || e != err {
			t.Fatalf("Diff(%v, %v) = %v, %d, want %v, %d", s, d, got, e, want, err)
		}
		sizes[len(got)]++
	}
	for _, s := range small() {
		for i, d := range digests() {
			if i < 16 || i%3 == 0 {
				check(s, d)
			}
		}
	}
	for _, s := range states() {
		for _, d := range some() {
			check(s, d)
		}
		own, _ := expectedOf(s)
		check(s, own)
		check(s, api.Digest{All: own.All})
	}
	if sizes[0] < 1000 || sizes[1] < 1000 || len(sizes) < 40 {
		t.Errorf("the sizes of differences were %v", sizes)
	}
}

// P16.2: what is no store, digests that are not valid, and both.
func TestDiffErrors(t *testing.T) {
	refused := func(s api.State, d api.Digest) {
		t.Helper()
		if got, e := digest.Diff(s, d); len(got) > 0 || e != api.ErrArg {
			t.Fatalf("Diff(%v, %v) = %v, %d", s, d, got, e)
		}
	}
	wrong := noDigests()
	for i, s := range noStates() {
		for _, d := range []api.Digest{{}, dig(chapterOf), {All: everything(), Gone: everything()}} {
			refused(s, d)
		}
		refused(s, wrong[i%len(wrong)])
	}
	for _, d := range wrong {
		for _, s := range []api.State{nil, of(chapter), whole(9, 2), of("64.4294967295 root 1 -")} {
			refused(s, d)
		}
	}
}
