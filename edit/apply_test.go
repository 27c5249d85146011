package edit_test

import (
	"slices"
	"testing"

	"redpencil/api"
	"redpencil/edit"
)

// P15.3: deltas that bring nodes, kill some, or both; empty states and deltas; what is there already; nodes that are lost, and that are reached as soon as their parent comes.
func TestApply(t *testing.T) {
	const lost, found = "1.1 root 1 U+0061, 1.3 1.2 3 U+0063", "1.1 root 1 U+0061, 1.2 1.1 2 U+0062, 1.3 1.2 3 U+0063"
	for _, c := range []struct{ s, delta, want, text string }{
		{chapter, "2.1 1.1 4 U+0078, 2.2 2.1 5 U+0079", "1.1 root 1 U+0061, 2.1 1.1 4 U+0078, 1.2 1.1 2 -, 2.2 2.1 5 U+0079, 1.3 1.2 3 U+0063", "axyc"},
		{chapter, "1.1 root 1 -, 2.1 root 4 U+007A, 1.3 1.2 3 -", "1.1 root 1 -, 2.1 root 4 U+007A, 1.2 1.1 2 -, 1.3 1.2 3 -", "z"},
		{"", "", "", ""}, {chapter, "", chapter, "ac"}, {"", chapter, chapter, "ac"}, {chapter, chapter, chapter, "ac"}, {chapter, "1.1 root 1 -", "1.1 root 1 -, 1.2 1.1 2 -, 1.3 1.2 3 U+0063", "c"}, {chapter, "1.2 1.1 2 U+0062", chapter, "ac"}, {chapter, "1.2 1.1 2 -", chapter, "ac"},
		{"1.1 root 1 U+0061", "1.1 root 1 -", "1.1 root 1 -", ""}, {"1.1 root 1 -", "1.1 root 1 U+0061", "1.1 root 1 -", ""}, {"1.1 root 1 U+0061", "2.1 root 1 U+20AC", "1.1 root 1 U+0061, 2.1 root 1 U+20AC", "€a"},
		{"1.1 root 1 U+0061", "1.3 1.2 3 U+0063", lost, "a"}, {lost, "", lost, "a"}, {lost, "1.2 1.1 2 U+0062", found, "abc"}, {lost, "1.2 1.1 2 -", "1.1 root 1 U+0061, 1.2 1.1 2 -, 1.3 1.2 3 U+0063", "ac"}, {"", "1.3 1.2 3 U+0063", "1.3 1.2 3 U+0063", ""}, {"1.1 1.2 1 U+0061", "1.2 1.1 1 U+0062", "1.1 1.2 1 U+0061, 1.2 1.1 1 U+0062", ""}, {"1.1 root 5 U+0061", "1.2 1.1 5 U+0062", "1.1 root 5 U+0061, 1.2 1.1 5 U+0062", "ab"},
		{"64.4294967295 root 4611686018427387904 U+10FFFF", "1.1 64.4294967295 1 U+0001", "1.1 64.4294967295 1 U+0001, 64.4294967295 root 4611686018427387904 U+10FFFF", "\U0010ffff\x01"},
	} {
		s, text, e := edit.Apply(of(c.s), of(c.delta))
		if !slices.Equal(s, of(c.want)) || string(text) != c.text || e != api.OK {
			t.Errorf("Apply(%s, %s) = %v, %q, %d, want %s, %q", c.s, c.delta, s, string(text), e, c.want, c.text)
		}
		if again, text, e := edit.Apply(s, of(c.delta)); !slices.Equal(again, of(c.want)) || string(text) != c.text || e != api.OK {
			t.Errorf("Apply(%s, %s), and once more, = %v, %q, %d, want %s, %q", c.s, c.delta, again, string(text), e, c.want, c.text)
		}
	}
}

// P15.3: states and deltas that do not agree, and what is no store, as each of the two, and as both; that comes first.
func TestApplyErrors(t *testing.T) {
	refused := func(s, delta api.State, want api.Errno) {
		t.Helper()
		if both, text, e := edit.Apply(s, delta); len(both) > 0 || len(text) > 0 || e != want {
			t.Fatalf("Apply(%v, %v) = %v, %q, %d, want %d", s, delta, both, text, e, want)
		}
	}
	for _, other := range []string{"1.1 root 1 U+0062", "1.1 root 2 U+0061", "1.1 root 2 -", "1.1 1.3 1 -", "1.3 1.1 3 U+0063", "1.2 1.1 3 -", "2.1 root 4 U+0078, 1.3 1.2 3 U+0064", "1.3 1.2 4 -, 1.4 root 1 U+0061"} {
		refused(of(chapter), of(other), api.ErrClash)
		refused(of(other), of(chapter), api.ErrClash)
	}
	some := append(states()[:8], of("1.1 9.9 1 U+0077"), of("1.1 root 7 U+0077"))
	for _, bad := range noStores() {
		for _, s := range some {
			refused(s, bad, api.ErrArg)
			refused(bad, s, api.ErrArg)
		}
		refused(bad, bad, api.ErrArg)
	}
}

// P15.3: pairs of small stores, well-formed or not, which agree or not, and deltas of states of all kinds.
func TestApplyOfMany(t *testing.T) {
	seen := map[api.Errno]int{}
	check := func(s, delta api.State) {
		want, wanted, err := expectedApply(s, delta)
		if both, text, e := edit.Apply(s, delta); !slices.Equal(both, want) || string(text) != wanted || e != err {
			t.Fatalf("Apply(%v, %v) = %v, %q, %d, want %v, %q, %d", s, delta, both, string(text), e, want, wanted, err)
		}
		seen[err]++
	}
	all := small()
	for i, s := range all {
		for k := range 6 {
			check(s, all[(i*i+k*1009)%len(all)])
		}
		check(s, all[i%19])
		check(s, s)
	}
	for _, s := range append(states(), notWell()...) {
		for _, other := range append(states(), notWell()...) {
			check(s, other)
		}
		for i := range s {
			check(s[:i], s[i:])
			dead := s[i]
			dead.Rune = 0
			check(s, api.State{dead})
			check(api.State{dead}, s)
			check(s, slices.Delete(slices.Clone(s), i, i+1))
		}
	}
	if seen[api.OK] < 5000 || seen[api.ErrClash] < 5000 || len(seen) != 2 {
		t.Errorf("the errors were %v", seen)
	}
}

// P15.3: an example of the chapter, and some more: the latest node at each place, alive or dead, also where the state is not well-formed; and what is no store.
func TestLatest(t *testing.T) {
	for _, c := range []struct {
		s    string
		want int
	}{
		{chapter, 3}, {"", 0}, {"1.1 root 1 U+0061", 1}, {"1.1 root 7 -", 7}, {"64.4294967295 root 4611686018427387904 -", 4611686018427387904}, {"1.1 9.9 4611686018427387904 U+0061, 1.2 root 5 -", 4611686018427387904}, {"1.1 root 5 U+0061, 2.1 root 5 U+0061", 5}, {"1.1 root 5 U+0061, 1.2 1.1 4 -", 5},
		{"1.2 root 1 U+0061, 1.1 root 5 U+0062", 0}, {"1.1 root 7 U+0061, 1.1 root 7 U+0061", 0},
	} {
		if n := edit.Latest(of(c.s)); n != c.want {
			t.Errorf("Latest(%s) = %d, want %d", c.s, n, c.want)
		}
	}
	s, _ := typed(40, 3)
	for i := range s {
		was := s[i].Time
		s[i].Time = 777
		if n := edit.Latest(s); n != 777 {
			t.Errorf("Latest(%v) = %d", s, n)
		}
		s[i].Time = was
	}
	for _, s := range noStores() {
		if n := edit.Latest(s); n != 0 {
			t.Errorf("Latest(%v) = %d", s, n)
		}
	}
}
