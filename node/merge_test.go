package node_test

import (
	"testing"

	"redpencil/api"
	"redpencil/node"
)

// P9.3: the examples of the chapter, and some more.
func TestMerge(t *testing.T) {
	for _, c := range []struct{ a, b, want string }{
		{"1.1 root 1 U+0061", "1.1 root 1 -", "1.1 root 1 -"}, {"1.1 root 1 -", "1.1 root 1 U+0061", "1.1 root 1 -"},
		{"1.1 root 1 U+0061", "1.1 root 1 U+0061", "1.1 root 1 U+0061"}, {"1.1 root 1 -", "1.1 root 1 -", "1.1 root 1 -"},
		{"3.7 1.2 5 U+20AC", "3.7 1.2 5 U+20AC", "3.7 1.2 5 U+20AC"}, {"3.7 1.2 5 U+0001", "3.7 1.2 5 -", "3.7 1.2 5 -"}, {"1.3 9.9 7 -", "1.3 9.9 7 U+E000", "1.3 9.9 7 -"},
		{"64.4294967295 64.4294967294 4611686018427387904 U+10FFFF", "64.4294967295 64.4294967294 4611686018427387904 -", "64.4294967295 64.4294967294 4611686018427387904 -"},
	} {
		if n, e := node.Merge(of(c.a), of(c.b)); n != of(c.want) || e != api.OK {
			t.Errorf("Merge(%s, %s) = %v, %d, want %s", c.a, c.b, n, e, c.want)
		}
	}
}

// fails checks that two nodes are not merged, in either order, but give an error.
func fails(t *testing.T, a, b api.Node, want api.Errno) {
	t.Helper()
	if n, e := node.Merge(a, b); n != (api.Node{}) || e != want {
		t.Errorf("Merge(%s, %s) = %v, %d, want the error %d", written(a), written(b), n, e, want)
	}
	if n, e := node.Merge(b, a); n != (api.Node{}) || e != want {
		t.Errorf("Merge(%s, %s) = %v, %d, want the error %d", written(b), written(a), n, e, want)
	}
}

// P9.3: an example of the chapter, and others that differ in one part or in more, alive and dead.
func TestMergeOfWhatDoesNotAgree(t *testing.T) {
	for _, c := range []struct{ a, b string }{
		{"1.1 root 1 U+0061", "1.1 root 1 U+0062"}, {"1.1 root 1 -", "1.1 root 2 -"},
		{"1.1 root 1 U+0061", "1.1 root 1 U+0001"}, {"1.1 root 1 U+0061", "1.1 root 1 U+0041"}, {"1.1 root 1 U+10FFFF", "1.1 root 1 U+FFFF"},
		{"1.1 root 1 U+0061", "1.1 root 2 U+0061"}, {"1.1 root 1 -", "1.1 root 2 U+0061"}, {"1.1 root 2 -", "1.1 root 1 U+0061"}, {"1.1 root 1 -", "1.1 root 4611686018427387904 -"},
		{"1.1 root 1 U+0061", "2.1 root 1 U+0061"}, {"1.1 root 1 U+0061", "1.2 root 1 U+0061"}, {"1.1 root 1 -", "2.1 root 1 U+0061"}, {"1.1 root 1 -", "1.2 root 1 -"}, {"1.2 root 1 -", "2.1 root 1 -"},
		{"1.1 root 1 U+0061", "1.1 2.2 1 U+0061"}, {"1.1 2.2 1 U+0061", "1.1 2.3 1 U+0061"}, {"1.1 2.2 1 U+0061", "1.1 3.2 1 -"}, {"1.1 root 1 -", "1.1 2.2 1 U+0061"}, {"1.1 2.2 1 -", "1.1 2.3 1 -"}, {"1.1 2.3 1 -", "1.1 3.2 1 -"},
		{"1.1 2.2 1 U+0061", "2.2 1.1 1 U+0061"}, {"1.1 root 1 U+0061", "2.2 3.3 4 U+0062"}, {"1.1 root 1 -", "2.2 3.3 4 -"},
	} {
		fails(t, of(c.a), of(c.b), api.ErrClash)
	}
}

// P9.3: an example of the chapter, and that what is not valid comes first, whether the nodes agree or not.
func TestMergeOfWhatIsNotValid(t *testing.T) {
	fails(t, of("1.1 root 1 -"), of("1.1 root 0 -"), api.ErrArg)
	for _, a := range wrong() {
		fails(t, a, a, api.ErrArg)
		fails(t, a, node.Kill(a), api.ErrArg)
		for _, b := range few() {
			fails(t, a, b, api.ErrArg)
		}
		for _, b := range rest(10) {
			fails(t, a, b, api.ErrArg)
		}
	}
}

// P9.3: an alive node that is not valid by its rune alone and the dead one are not merged either.
func TestMergeWithWrongRunes(t *testing.T) {
	dead := of("3.7 1.2 5 -")
	for _, r := range edgeRunes() {
		n := dead
		n.Rune = r
		if !isValid(n) {
			fails(t, n, dead, api.ErrArg)
			fails(t, n, n, api.ErrArg)
		}
	}
}

// P9.3
func TestMergeOfMany(t *testing.T) {
	merges := 0
	for _, a := range few() {
		for _, b := range few() {
			want, err := merged(a, b)
			if n, e := node.Merge(a, b); n != want || e != err {
				t.Fatalf("Merge(%s, %s) = %v, %d, want %v, %d", written(a), written(b), n, e, want, err)
			}
			if err == api.OK {
				merges++
			}
		}
	}
	if merges < 200 {
		t.Errorf("only %d pairs were merged", merges)
	}
}

// P9.3: valid nodes that differ in one part only, whichever values this part has.
func TestMergeOfWhatDiffersInOnePart(t *testing.T) {
	for _, r := range []rune{0, 0x61} {
		a := of("3.7 1.2 5 -")
		a.Rune = r
		var others []api.Node
		for _, d := range edgeDots() {
			b, c := a, a
			b.Dot, c.Parent = d, d
			others = append(others, b, c)
		}
		for _, time := range edgeTimes() {
			b := a
			b.Time = time
			others = append(others, b)
		}
		for _, other := range edgeRunes() {
			b := a
			b.Rune = other
			others = append(others, b)
		}
		for _, b := range others {
			for _, c := range []api.Node{b, node.Kill(b)} {
				want, err := merged(a, c)
				if n, e := node.Merge(a, c); n != want || e != err {
					t.Errorf("Merge(%s, %s) = %v, %d, want %v, %d", written(a), written(c), n, e, want, err)
				}
			}
		}
	}
}
