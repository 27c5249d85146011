package join_test

import (
	"slices"
	"testing"

	"redpencil/api"
	"redpencil/join"
)

// P14.3: the examples of the chapter, and some more, in every order.
func TestAll(t *testing.T) {
	const three = "1.1 root 1 -, 2.1 1.1 2 U+0079, 1.2 1.1 3 U+007A"
	for _, c := range []struct {
		l    []api.State
		want string
	}{
		{nil, ""}, {list(chapterA, chapterA), chapterA},
		{list(""), ""}, {list("", "", ""), ""}, {list(chapterA), chapterA}, {list("1.1 root 1 -"), "1.1 root 1 -"}, {list("64.4294967295 root 4611686018427387904 U+10FFFF"), "64.4294967295 root 4611686018427387904 U+10FFFF"}, {list("", chapterA, ""), chapterA}, {list(chapterA, chapterA, chapterA, chapterA), chapterA},
		{list(chapterA, chapterB), three}, {list(chapterA, chapterB, chapterA), three}, {list(chapterB, chapterC), chapterB}, {list(chapterA, chapterB, "1.1 root 1 U+0078", "1.2 1.1 3 -"), "1.1 root 1 -, 2.1 1.1 2 U+0079, 1.2 1.1 3 -"}, {list(three, chapterA, chapterB, "2.1 1.1 2 U+0079"), three},
		{list("1.1 root 1 -", "2.1 root 1 -", "1.2 root 1 -", "2.2 root 1 -"), "1.1 root 1 -, 2.1 root 1 -, 1.2 root 1 -, 2.2 root 1 -"}, {list("1.1 root 1 U+0061, 1.3 root 1 U+0063", "1.2 root 1 U+0062, 1.3 root 1 -", "1.1 root 1 -, 1.4 root 1 U+0064"), "1.1 root 1 -, 1.2 root 1 U+0062, 1.3 root 1 -, 1.4 root 1 U+0064"},
		{list("1.1 root 1 -", "1.1 root 1 U+0061", "1.1 root 1 -", "1.1 root 1 U+0061"), "1.1 root 1 -"}, {list("1.1 64.4294967295 1 U+0001", "64.4294967295 root 4611686018427387904 -", "64.4294967295 root 4611686018427387904 U+10FFFF"), "1.1 64.4294967295 1 U+0001, 64.4294967295 root 4611686018427387904 -"},
	} {
		permuted(c.l, func(l []api.State) {
			if s, e := join.All(l); !slices.Equal(s, of(c.want)) || e != api.OK {
				t.Errorf("All(%v) = %v, %d, want %s", l, s, e, c.want)
			}
		})
	}
	if s, e := join.All([]api.State{}); len(s) != 0 || e != api.OK {
		t.Errorf("All of no states = %v, %d", s, e)
	}
}

// P14.3: an example of the chapter, and some more: two states that do not agree, and others that agree with both, or with one of them, or are dead where they differ, in every order: so also the first and the last one, or neighbours.
func TestAllOfStatesThatDoNotAgree(t *testing.T) {
	for _, l := range [][]api.State{
		list(chapterA, chapterB, chapterC),
		list(chapterA, chapterC), list(chapterA, chapterC, chapterA), list(chapterA, "", chapterC, "9.9 root 1 -"), list("1.1 root 1 U+0061", "1.1 root 1 -", "1.1 root 1 U+0062"), list("1.1 root 1 U+0061", "1.1 root 1 -", "1.1 root 1 -", "1.1 root 1 U+0062"),
		list("1.1 root 1 U+0061, 1.2 root 1 -", "1.1 root 1 -, 1.2 root 1 -", "1.2 root 1 -", "1.1 root 1 U+0062, 1.2 root 1 U+0062"), list("1.1 root 1 U+0061, 1.2 root 1 U+0061", "1.1 root 1 U+0061, 1.2 root 1 -", "1.1 root 1 -, 1.2 root 1 U+0062"),
		list("1.1 root 1 -", "1.1 root 2 -"), list("1.1 root 1 -", "1.1 root 1 -", "1.1 root 2 -", "1.1 root 1 U+0061"), list("1.1 8.9 1 -", "1.2 root 1 -", "1.1 9.9 1 U+0061"), list("64.4294967295 root 4611686018427387904 U+10FFFF", "64.4294967295 root 4611686018427387904 -", "64.4294967295 root 4611686018427387904 U+10FFFE"),
	} {
		permuted(l, func(l []api.State) {
			if s, e := join.All(l); len(s) != 0 || e != api.ErrClash {
				t.Errorf("All(%v) = %v, %d", l, s, e)
			}
		})
	}
}

// P14.3: three states of which only the first and the last one, or only two neighbours, do not agree, wherever they differ; the two joins of which each step is allowed do not hide it.
func TestOnlyTwoOfThreeDoNotAgree(t *testing.T) {
	whole := text(17)
	for at := range whole {
		other, dead := spoilt(whole, at, 3), slices.Clone(whole)
		dead[at].Rune = 0
		without := slices.Delete(slices.Clone(whole), at, at+1)
		for _, third := range []api.State{dead, without, dead[at : at+1], nil} {
			permuted([]api.State{whole, third, other}, func(l []api.State) {
				if s, e := join.All(l); len(s) != 0 || e != api.ErrClash {
					t.Fatalf("All(%v) = %v, %d", l, s, e)
				}
			})
		}
		both, e := join.Join(whole, dead)
		if s, f := join.Join(both, other); !slices.Equal(s, dead) || e != api.OK || f != api.OK {
			t.Fatalf("Join(%v, %v) = %v, %d, after %d", both, other, s, f, e)
		}
	}
}

// P14.3: a state that is no store, at each place, alone and with others, which agree or not.
func TestAllWithWhatIsNoStore(t *testing.T) {
	whole := text(6)
	for _, bad := range noStates() {
		for _, l := range [][]api.State{nil, {nil}, {whole}, {whole, part(whole, 1), part(whole, 2)}, {whole, spoilt(whole, 0, 0)}, {whole, spoilt(whole, 5, 3), whole}, {bad}, {whole, noStates()[0]}} {
			for at := range len(l) + 1 {
				all := slices.Insert(slices.Clone(l), at, bad)
				if s, e := join.All(all); len(s) != 0 || e != api.ErrArg {
					t.Fatalf("All(%v) = %v, %d", all, s, e)
				}
			}
		}
	}
}

// P14.3: all lists of three small states, and lists of many, which agree or not.
func TestAllOfMany(t *testing.T) {
	seen := map[api.Errno]int{}
	check := func(l ...api.State) {
		want, err := expectedAll(l)
		if s, e := join.All(l); !slices.Equal(s, want) || e != err {
			t.Fatalf("All(%v) = %v, %d, want %v, %d", l, s, e, want, err)
		}
		seen[err]++
	}
	for _, a := range small(2) {
		for _, b := range small(2) {
			check(a, b)
			for _, c := range small(2) {
				check(a, b, c)
			}
		}
	}
	all := states()
	for i := range all {
		for count := range 6 {
			check(all[i:min(i+count, len(all))]...)
			check(all[i], all[i*i%len(all)], all[(i+count)%len(all)], all[i])
		}
	}
	for _, size := range []int{1, 2, 9, 40} {
		check(parts(size)...)
		check(append(parts(size), spoilt(text(size), size/2, size))...)
	}
	if seen[api.OK] < 5000 || seen[api.ErrClash] < 5000 || len(seen) != 2 {
		t.Errorf("the errors were %v", seen)
	}
}

// P14.3: so many states that joining them one after the other would be slow: of one node each, alive or dead, and each of them twice.
func TestAllOfManyStates(t *testing.T) {
	whole := text(1 << 15)
	var l []api.State
	for i := range whole {
		l = append(l, slices.Clone(whole[i:i+1]))
		if i%3 == 0 {
			whole[i].Rune = 0
		}
		l = append(l, slices.Clone(whole[i:i+1]))
	}
	slices.Reverse(l)
	if s, e := join.All(l); !slices.Equal(s, whole) || e != api.OK {
		t.Errorf("the join of %d states has %d nodes, %d", len(l), len(s), e)
	}
	if s, e := join.All(append(l, spoilt(whole, len(whole)/2, 0))); len(s) != 0 || e != api.ErrClash {
		t.Errorf("the join of %d states, two of which do not agree, has %d nodes, %d", len(l)+1, len(s), e)
	}
}

// P14.3: the examples of the chapter, and some more.
func TestWithin(t *testing.T) {
	const three = "1.1 root 1 -, 2.1 1.1 2 U+0079, 1.2 1.1 3 U+007A"
	for _, c := range []struct {
		a, b string
		want bool
	}{
		{chapterA, three, true}, {chapterB, chapterA, false},
		{chapterB, three, true}, {chapterA, chapterB, false}, {three, chapterA, false}, {three, chapterB, false}, {chapterC, chapterB, true}, {chapterB, chapterC, false},
		// In itself, in one with more nodes at each place, and in one in which a node is dead; the empty state is in all, and only itself is in it.
		{"", "", true}, {"", chapterA, true}, {chapterA, "", false}, {"1.1 root 1 -", "", false}, {chapterA, chapterA, true}, {chapterB, chapterB, true}, {three, three, true},
		{"1.2 root 1 U+0061", "1.1 root 1 -, 1.2 root 1 U+0061", true}, {"1.1 root 1 -, 1.2 root 1 U+0061", "1.2 root 1 U+0061", false}, {"1.1 root 1 -, 1.3 root 1 U+0061", "1.1 root 1 -, 1.2 root 1 -, 1.3 root 1 U+0061", true}, {"1.1 root 1 -, 1.2 root 1 -, 1.3 root 1 U+0061", "1.1 root 1 -, 1.3 root 1 U+0061", false}, {"1.1 root 1 -", "1.1 root 1 -, 1.2 root 1 -", true}, {"1.1 root 1 -, 1.2 root 1 -", "1.1 root 1 -", false},
		{"1.1 root 1 U+0061", "1.1 root 1 -", true}, {"1.1 root 1 -", "1.1 root 1 U+0061", false}, {"1.1 root 1 -", "1.1 root 1 -", true}, {"1.1 root 1 U+0061, 1.2 root 1 U+0062", "1.1 root 1 U+0061, 1.2 root 1 -", true}, {"1.1 root 1 U+0061, 1.2 root 1 -", "1.1 root 1 U+0061, 1.2 root 1 U+0062", false}, {"1.1 root 1 -, 1.2 root 1 U+0062", "1.1 root 1 U+0061, 1.2 root 1 -", false}, {"1.1 root 1 U+0061", "1.2 root 1 U+0061", false}, {"1.1 root 1 U+0061, 2.1 root 1 -", "1.1 root 1 -, 1.2 root 1 -", false},
		{"64.4294967295 root 4611686018427387904 U+10FFFF", "64.4294967295 root 4611686018427387904 -", true}, {"64.4294967295 root 4611686018427387904 -", "64.4294967295 root 4611686018427387904 U+10FFFF", false}, {"1.1 root 1 U+0001", "1.1 root 1 U+0001, 64.4294967295 root 4611686018427387904 -", true},
	} {
		if is, e := join.Within(of(c.a), of(c.b)); is != c.want || e != api.OK {
			t.Errorf("Within(%s, %s) = %t, %d", c.a, c.b, is, e)
		}
	}
}

// P14.3: all pairs of small states, and of others that agree or not.
func TestWithinOfMany(t *testing.T) {
	seen := map[bool]int{}
	for _, all := range [][]api.State{states(), small(3)} {
		for _, a := range all {
			for _, b := range all {
				want, err := expectedWithin(a, b)
				if is, e := join.Within(a, b); is != want || e != err {
					t.Fatalf("Within(%v, %v) = %t, %d, want %t, %d", a, b, is, e, want, err)
				}
				if err == api.OK {
					seen[want]++
				}
			}
		}
	}
	if seen[true] < 2000 || seen[false] < 2000 {
		t.Errorf("the results were %v", seen)
	}
}
