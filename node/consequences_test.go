package node_test

import (
	"slices"
	"testing"

	"redpencil/api"
	"redpencil/node"
)

// P9.5: of two nodes with different times or dots just one stands before the other one, and no node before one with the same.
func TestBeforeIsTotal(t *testing.T) {
	l := slices.Concat(few(), rest(100), product(edgeDots(), dots("root", "3.7"), edgeTimes()[3:6], []rune{0}))
	for _, a := range l {
		for _, b := range l {
			there, back := node.Before(a, b), node.Before(b, a)
			same := a.Time == b.Time && a.Dot == b.Dot
			if there && back || (there || back) == same {
				t.Fatalf("Before(%s, %s) = %t, the other way round %t", written(a), written(b), there, back)
			}
		}
	}
}

// P9.5: what stands before a node stands before all that this node stands before.
func TestBeforeIsAnOrder(t *testing.T) {
	l := append(product(dots("root", "1.1", "2.1", "1.2", "3.7", "65.1", "1.-1"), dots("root"), edgeTimes(), []rune{0x61}), few()...)
	for _, a := range l {
		for _, b := range l {
			if !node.Before(a, b) {
				continue
			}
			for _, c := range l {
				if node.Before(b, c) && !node.Before(a, c) {
					t.Fatalf("%s, %s and %s go round in a circle", written(a), written(b), written(c))
				}
			}
		}
	}
}

// P9.2 and P9.5: nodes that are sorted stand by decreasing times, and of equal times by decreasing dots.
func TestSortedNodes(t *testing.T) {
	compare := func(a, b api.Node) int {
		switch {
		case node.Before(a, b):
			return -1
		case node.Before(b, a):
			return 1
		}
		return 0
	}
	l := product(dots("1.1", "2.1", "1.2", "2.2", "1.10"), dots("root"), []int{1, 2, 10}, []rune{0x61})
	for i := range l {
		j := (i*i + 7) % len(l)
		l[i], l[j] = l[j], l[i]
	}
	slices.SortFunc(l, compare)
	at := 0
	for _, time := range []int{10, 2, 1} {
		for _, d := range dots("1.10", "2.2", "1.2", "2.1", "1.1") {
			if l[at].Time != time || l[at].Dot != d {
				t.Errorf("at %d stands %s", at, written(l[at]))
			}
			at++
		}
	}
}

// P9.5
func TestMergeHasNoOrder(t *testing.T) {
	l := append(few(), rest(50)...)
	for _, a := range l {
		for _, b := range l {
			there, e := node.Merge(a, b)
			back, f := node.Merge(b, a)
			if there != back || e != f {
				t.Fatalf("Merge(%s, %s) = %v, %d, the other way round %v, %d", written(a), written(b), there, e, back, f)
			}
		}
	}
}

// P9.5
func TestMergeWithItself(t *testing.T) {
	for _, n := range slices.Concat(edges(), few(), rest(3000)) {
		want, err := n, api.OK
		if !isValid(n) {
			want, err = api.Node{}, api.ErrArg
		}
		if m, e := node.Merge(n, n); m != want || e != err {
			t.Fatalf("Merge of %s with itself = %v, %d", written(n), m, e)
		}
	}
}

// P9.5: what was dead stays dead, and only that is dead afterwards of which one was.
func TestWhatWasDeadStaysDead(t *testing.T) {
	for _, n := range slices.Concat(few(), rest(1000)) {
		if !isValid(n) {
			continue
		}
		killed := node.Kill(n)
		for _, pair := range [][2]api.Node{{n, killed}, {killed, n}, {killed, killed}} {
			if m, e := node.Merge(pair[0], pair[1]); !node.Dead(m) || m != killed || e != api.OK {
				t.Fatalf("Merge(%s, %s) = %v, %d", written(pair[0]), written(pair[1]), m, e)
			}
		}
		if m, e := node.Merge(n, n); node.Dead(m) != node.Dead(n) || e != api.OK {
			t.Fatalf("Merge of %s with itself = %v, %d", written(n), m, e)
		}
		if again := node.Kill(killed); again != killed {
			t.Fatalf("Kill(%s) = %v", written(killed), again)
		}
	}
}

// P9.5: of three nodes, any two of which agree, it does not matter which two are merged first.
func TestMergeHasNoGroups(t *testing.T) {
	l, groups := few(), 0
	for _, a := range l {
		for _, b := range l {
			for _, c := range l {
				if !isValid(a) || !isValid(b) || !isValid(c) || !doAgree(a, b) || !doAgree(b, c) || !doAgree(a, c) {
					continue
				}
				groups++
				left, e := node.Merge(a, b)
				whole, f := node.Merge(left, c)
				right, g := node.Merge(b, c)
				other, h := node.Merge(a, right)
				if whole != other || e != api.OK || f != api.OK || g != api.OK || h != api.OK {
					t.Fatalf("%s, %s and %s: %v, %d %d, and %v, %d %d", written(a), written(b), written(c), whole, e, f, other, g, h)
				}
			}
		}
	}
	if groups < 500 {
		t.Errorf("only %d times three nodes agreed", groups)
	}
}

// P9.5: each node has a text of its own, from which it is found again.
func TestParseInvertsText(t *testing.T) {
	texts := map[string]api.Node{}
	for _, n := range slices.Concat(edges(), few(), rest(3000)) {
		s, e := node.Text(n)
		if e != api.OK {
			continue
		}
		if other, is := texts[s]; is && other != n {
			t.Fatalf("%v and %v have the text %q", n, other, s)
		}
		texts[s] = n
		if back, e := node.Parse(s); back != n || e != api.OK {
			t.Fatalf("Parse(%q) = %v, %d, want %v", s, back, e, n)
		}
	}
	if len(texts) < 5000 {
		t.Errorf("only %d nodes have a text", len(texts))
	}
}

// P9.5: the text of what Parse returns is what was parsed, with every rune that has a name.
func TestTextInvertsParse(t *testing.T) {
	for r := rune(0); r <= 0x110000; r += 13 {
		n := api.Node{Dot: api.Dot{Replica: 3, Counter: int(r) + 1}, Parent: dotOf("64.4294967295"), Time: 1 + int(r)*int(r), Rune: r}
		if !isValid(n) {
			continue
		}
		back, e := node.Parse(written(n))
		if s, f := node.Text(back); s != written(n) || back != n || e != api.OK || f != api.OK {
			t.Fatalf("Parse(%q) = %v, %d, with the text %q, %d", written(n), back, e, s, f)
		}
	}
}

// Nothing depends on earlier calls.
func TestEqualCallsHaveEqualResults(t *testing.T) {
	for _, a := range few() {
		for _, b := range append(wrong(), rest(10)...) {
			for _, pair := range [][2]api.Node{{a, b}, {b, a}, {a, node.Kill(a)}} {
				m, e := node.Merge(pair[0], pair[1])
				before := node.Before(pair[0], pair[1])
				s, f := node.Text(pair[0])
				n, g := node.Parse(s)
				node.Merge(of("9.9 root 9 -"), of("9.9 root 9 U+0041"))
				node.Text(of("9.9 root 9 U+0041"))
				node.Parse("8.8 9.9 9 -")
				node.Parse("another")
				if again, h := node.Merge(pair[0], pair[1]); again != m || h != e || node.Before(pair[0], pair[1]) != before {
					t.Fatalf("%v: merged to %v, %d, and then to %v, %d", pair, m, e, again, h)
				}
				if again, h := node.Text(pair[0]); again != s || h != f {
					t.Fatalf("Text(%v) = %q, %d, and then %q, %d", pair[0], s, f, again, h)
				}
				if again, h := node.Parse(s); again != n || h != g {
					t.Fatalf("Parse(%q) = %v, %d, and then %v, %d", s, n, g, again, h)
				}
			}
		}
	}
}

// P1: no call panics, whatever its arguments are.
func TestEveryCallReturns(t *testing.T) {
	l := edges()
	for i, n := range l {
		node.Valid(n)
		node.Dead(n)
		node.Kill(n)
		node.Text(n)
		other := l[i*i%len(l)]
		node.Before(n, other)
		node.Merge(n, other)
		node.Merge(n, node.Kill(n))
	}
	for x := range 1 << 16 {
		s := string([]byte{byte(x >> 8), byte(x)})
		node.Parse(s)
		node.Parse("3.7 " + s + " 5 -")
		node.Parse("3.7 root " + s + " -")
		node.Parse("3.7 root 5 " + s)
	}
}
