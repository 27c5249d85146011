package join_test

import (
	"slices"
	"testing"

	"redpencil/api"
	"redpencil/join"
)

// P14.2: the examples of the chapter, and some more, in both orders.
func TestJoin(t *testing.T) {
	for _, c := range []struct{ a, b, want string }{
		{chapterA, chapterB, "1.1 root 1 -, 2.1 1.1 2 U+0079, 1.2 1.1 3 U+007A"}, {chapterB, chapterC, chapterB},
		{"", "", ""}, {chapterA, "", chapterA}, {"1.1 root 1 -", "", "1.1 root 1 -"}, {chapterA, chapterA, chapterA}, {chapterB, chapterB, chapterB}, {"1.1 root 1 -", "1.1 root 1 -", "1.1 root 1 -"},
		// One node in each: the same one, alive or dead, and different ones.
		{"1.1 root 1 U+0061", "1.1 root 1 -", "1.1 root 1 -"}, {"1.1 root 1 U+0061", "1.2 root 1 U+0061", "1.1 root 1 U+0061, 1.2 root 1 U+0061"}, {"1.1 root 1 -", "2.1 root 9 U+0061", "1.1 root 1 -, 2.1 root 9 U+0061"}, {"2.1 root 1 -", "1.2 root 1 -", "2.1 root 1 -, 1.2 root 1 -"},
		// Without a common dot: one wholly before the other one, and in turns.
		{"1.1 root 1 -, 2.1 root 1 -", "1.2 root 1 -, 2.2 root 1 -", "1.1 root 1 -, 2.1 root 1 -, 1.2 root 1 -, 2.2 root 1 -"}, {"1.1 root 1 -, 1.2 root 1 -", "2.1 root 1 -, 2.2 root 1 -", "1.1 root 1 -, 2.1 root 1 -, 1.2 root 1 -, 2.2 root 1 -"}, {"1.1 root 1 -, 1.9 root 1 -", "1.2 root 1 -, 1.3 root 1 -", "1.1 root 1 -, 1.2 root 1 -, 1.3 root 1 -, 1.9 root 1 -"}, {"1.10 root 1 -", "9.9 root 1 -", "9.9 root 1 -, 1.10 root 1 -"},
		// Common dots at the front, in the middle and at the end, where one of the lists ends, or not.
		{"1.1 root 1 U+0061, 1.2 root 1 U+0062", "1.1 root 1 -, 1.3 root 1 -", "1.1 root 1 -, 1.2 root 1 U+0062, 1.3 root 1 -"}, {"1.1 root 1 U+0061, 1.3 root 1 -, 1.5 root 1 U+0065", "1.2 root 1 -, 1.3 root 1 U+0063, 1.4 root 1 U+0064", "1.1 root 1 U+0061, 1.2 root 1 -, 1.3 root 1 -, 1.4 root 1 U+0064, 1.5 root 1 U+0065"}, {"1.1 root 1 U+0061, 1.3 root 1 -", "1.2 root 1 -, 1.3 root 1 U+0063", "1.1 root 1 U+0061, 1.2 root 1 -, 1.3 root 1 -"}, {"1.1 root 1 U+0061", "1.1 root 1 U+0061, 1.2 root 1 U+0062", "1.1 root 1 U+0061, 1.2 root 1 U+0062"}, {"1.2 root 1 -", "1.1 root 1 U+0061, 1.2 root 1 U+0062", "1.1 root 1 U+0061, 1.2 root 1 -"}, {"1.2 root 1 -", "1.1 root 1 U+0061, 1.2 root 1 U+0062, 1.3 root 1 U+0063", "1.1 root 1 U+0061, 1.2 root 1 -, 1.3 root 1 U+0063"},
		// The same dots, dead in the one or in the other one, in both, and in none.
		{"1.1 root 1 U+0061, 1.2 root 1 -, 1.3 root 1 -, 1.4 root 1 U+0064", "1.1 root 1 -, 1.2 root 1 U+0062, 1.3 root 1 -, 1.4 root 1 U+0064", "1.1 root 1 -, 1.2 root 1 -, 1.3 root 1 -, 1.4 root 1 U+0064"},
		// Parents may be lacking, and a node need not be later than its parent.
		{"1.2 1.1 5 U+0061", "1.1 9.9 5 U+0062", "1.1 9.9 5 U+0062, 1.2 1.1 5 U+0061"}, {"1.1 1.2 1 U+0061", "1.2 1.1 1 -", "1.1 1.2 1 U+0061, 1.2 1.1 1 -"},
		{"1.1 root 1 U+0001, 64.4294967295 64.4294967294 4611686018427387904 -", "1.1 root 1 U+0001, 64.4294967295 64.4294967294 4611686018427387904 U+10FFFF", "1.1 root 1 U+0001, 64.4294967295 64.4294967294 4611686018427387904 -"}, {"64.4294967295 root 4611686018427387904 U+10FFFF", "1.1 root 1 U+0001", "1.1 root 1 U+0001, 64.4294967295 root 4611686018427387904 U+10FFFF"}, {"63.4294967295 root 1 -", "64.4294967294 root 1 -, 64.4294967295 root 1 -", "64.4294967294 root 1 -, 63.4294967295 root 1 -, 64.4294967295 root 1 -"},
	} {
		for _, p := range [][2]string{{c.a, c.b}, {c.b, c.a}} {
			if s, e := join.Join(of(p[0]), of(p[1])); !slices.Equal(s, of(c.want)) || e != api.OK {
				t.Errorf("Join(%s, %s) = %v, %d, want %s", p[0], p[1], s, e, c.want)
			}
			if is, e := join.Agree(of(p[0]), of(p[1])); !is || e != api.OK {
				t.Errorf("Agree(%s, %s) = %t, %d", p[0], p[1], is, e)
			}
		}
	}
}

// P14.2: the examples of the chapter, and some more: nodes with one dot that differ in one part, alive or dead, wherever they stand.
func TestStatesThatDoNotAgree(t *testing.T) {
	clash(t, of(chapterA), of(chapterC))
	for _, c := range [][2]string{
		{"64.4294967295 root 4611686018427387904 -", "64.4294967295 root 4611686018427387903 -"}, {"64.4294967295 root 4611686018427387904 U+10FFFF", "64.4294967295 root 4611686018427387904 U+10FFFE"}, {"1.1 64.4294967295 1 -", "1.1 63.4294967295 1 -"}, {"1.1 64.4294967295 1 -", "1.1 64.4294967294 1 -"}, {"1.1 root 1 U+0001", "1.1 root 1 U+0002"},
	} {
		clash(t, of(c[0]), of(c[1]))
	}
	for _, rest := range [][2]string{
		{" root 1 U+0061", " root 1 U+0062"}, {" root 1 U+0061", " root 2 U+0061"}, {" root 1 U+0061", " root 2 -"}, {" root 1 -", " root 2 -"}, {" root 1 U+0061", " 9.9 1 U+0061"}, {" root 1 -", " 9.9 1 U+0061"}, {" 8.9 1 -", " 9.9 1 -"}, {" 9.8 1 -", " 9.9 1 -"}, {" 9.8 1 U+0061", " 9.9 2 U+0062"},
	} {
		for _, before := range []string{"", "1.1 root 1 U+0061, ", "1.1 root 1 U+0061, 2.3 root 1 -, "} {
			for _, behind := range []string{"", ", 4.3 root 1 U+0061", ", 1.4 root 1 -, 2.4 root 1 U+0061"} {
				a, b := before+"3.3"+rest[0]+behind, before+"3.3"+rest[1]+behind
				clash(t, of(a), of(b))
				clash(t, of(a), of("3.3"+rest[1]))
				clash(t, of("3.3"+rest[0]), of(b))
				clash(t, of("2.1 root 1 -, 3.3"+rest[0]), of("2.2 root 1 -, 3.3"+rest[1]+behind))
				clash(t, of("2.1 root 1 -, 3.3"+rest[0]+", 5.3 root 1 -"), of("2.2 root 1 -, 3.3"+rest[1]+behind))
			}
		}
	}
}

// clash demands that two states do not agree, in whatever order they are given.
func clash(t *testing.T, a, b api.State) {
	t.Helper()
	for range 2 {
		s, e := join.Join(a, b)
		is, f := join.Agree(a, b)
		within, g := join.Within(a, b)
		if len(s) != 0 || e != api.ErrClash || is || f != api.OK || within || g != api.ErrClash {
			t.Errorf("Join(%v, %v) = %v, %d, Agree = %t, %d, Within = %t, %d", a, b, s, e, is, f, within, g)
		}
		a, b = b, a
	}
}

// P14.2 and P14.3: one node of a text differs, at each place and in each part, in the whole or in a part of it, of which some nodes are dead.
func TestOneNodeThatDiffers(t *testing.T) {
	whole := text(23)
	for at := range whole {
		for how := range 4 {
			bad := spoilt(whole, at, how)
			clash(t, whole, bad)
			clash(t, whole, bad[at:at+1])
			clash(t, whole, bad[at:])
			clash(t, whole[:at+1], bad)
			for _, some := range parts(23) {
				dot := slices.IndexFunc(some, func(n api.Node) bool { return n.Dot == whole[at].Dot })
				is, e := join.Agree(some, bad)
				if want := dot < 0 || how == 3 && some[dot].Rune == 0; is != want || e != api.OK {
					t.Fatalf("Agree(%v, %v) = %t, %d", some, bad, is, e)
				}
			}
		}
	}
}

// P14.2: all pairs of small states, and of others that agree or not.
func TestJoinOfMany(t *testing.T) {
	seen := map[api.Errno]int{}
	for _, all := range [][]api.State{states(), small(3)} {
		for _, a := range all {
			for _, b := range all {
				want, err := expectedJoin(a, b)
				if s, e := join.Join(a, b); !slices.Equal(s, want) || e != err {
					t.Fatalf("Join(%v, %v) = %v, %d, want %v, %d", a, b, s, e, want, err)
				}
				wanted, err2 := expectedAgree(a, b)
				if is, e := join.Agree(a, b); is != wanted || e != err2 {
					t.Fatalf("Agree(%v, %v) = %t, %d", a, b, is, e)
				}
				seen[err]++
			}
		}
	}
	if seen[api.OK] < 10000 || seen[api.ErrClash] < 10000 || len(seen) != 2 {
		t.Errorf("the errors were %v", seen)
	}
}

// P14.2: an example of the chapter, and P14.3: a state that is no store, as the first argument, as the second one, and as both; also where the rest does not agree, before the fault or behind it.
func TestStatesThatAreNoStore(t *testing.T) {
	good := append(states()[:20], text(6), spoilt(text(6), 0, 0), spoilt(text(6), 5, 3), spoilt(text(6), 3, 1))
	for _, bad := range append(noStates(), of("2.1 1.1 2 U+0079, 1.1 root 1 U+0078")) {
		for _, s := range append(good, of(chapterA), bad, noStates()[0]) {
			for _, p := range [][2]api.State{{bad, s}, {s, bad}} {
				both, e := join.Join(p[0], p[1])
				is, f := join.Agree(p[0], p[1])
				within, g := join.Within(p[0], p[1])
				if len(both) != 0 || e != api.ErrArg || is || f != api.ErrArg || within || g != api.ErrArg {
					t.Fatalf("Join(%v, %v) = %v, %d, Agree = %t, %d, Within = %t, %d", p[0], p[1], both, e, is, f, within, g)
				}
			}
		}
	}
}

// P14.2: texts that are so long that a look at all others for each node would not end in time.
func TestJoinOfLongStates(t *testing.T) {
	const size = 1 << 16
	whole := text(size)
	var odd, even, dead api.State
	for i, n := range whole {
		if i%2 == 0 {
			even = append(even, n)
		} else {
			odd = append(odd, n)
		}
		n.Rune = 0
		dead = append(dead, n)
	}
	for _, c := range []struct{ a, b, want api.State }{{odd, even, whole}, {whole, even, whole}, {whole[:size/2], whole[size/2:], whole}, {dead, whole, dead}, {nil, whole, whole}} {
		for _, p := range [][2]api.State{{c.a, c.b}, {c.b, c.a}} {
			is, e := join.Agree(p[0], p[1])
			if s, f := join.Join(p[0], p[1]); !slices.Equal(s, c.want) || !is || e != api.OK || f != api.OK {
				t.Errorf("the join of %d and %d nodes has %d, %d, want %d", len(p[0]), len(p[1]), len(s), f, len(c.want))
			}
		}
	}
}
