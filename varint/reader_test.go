package varint_test

import (
	"bytes"
	"math"
	"slices"
	"testing"

	"redpencil/api"
	"redpencil/varint"
)

// stays reports whether a reader of all of b has read nothing.
func stays(r *varint.Reader, b []byte) bool { return r.At() == 0 && r.Left() == len(b) }

// P1.3
func TestNumReads(t *testing.T) {
	for _, n := range edges() {
		b := written(func(w *varint.Writer) { w.Num(n) })
		for _, most := range []uint64{n, math.MaxUint64} {
			r := varint.New(append(slices.Clone(b), 128, 7))
			if got, e := r.Num(most); got != n || e != api.OK || r.At() != len(b) || r.Left() != 2 {
				t.Errorf("Num(%d) of %v = %d, %d at %d", most, b, got, e, r.At())
			}
		}
		if n == 0 {
			continue
		}
		r := varint.New(b)
		if got, e := r.Num(n - 1); got != 0 || e != api.ErrRange || !stays(r, b) {
			t.Errorf("Num(%d) of %v = %d, %d at %d", n-1, b, got, e, r.At())
		}
	}
}

// P1.3
func TestIntReads(t *testing.T) {
	for _, c := range []struct {
		b    []byte
		want int
	}{
		{[]byte{0}, 0}, {[]byte{1}, -1}, {[]byte{2}, 1}, {[]byte{5}, -3}, {[]byte{172, 2}, 150},
		{append([]byte{254}, nines(1)[1:]...), math.MaxInt64}, {nines(1), math.MinInt64},
	} {
		r := varint.New(append(slices.Clone(c.b), 3))
		if got, e := r.Int(); got != c.want || e != api.OK || r.At() != len(c.b) || r.Left() != 1 {
			t.Errorf("Int of %v = %d, %d at %d", c.b, got, e, r.At())
		}
	}
}

// brokenNumbers are bytes at whose beginning no number can be read, whatever the maximum.
var brokenNumbers = []struct {
	b    []byte
	want api.Errno
}{
	{nil, api.ErrShort}, {[]byte{}, api.ErrShort}, {[]byte{128}, api.ErrShort}, {[]byte{255, 255}, api.ErrShort},
	{nines(), api.ErrShort}, {bytes.Repeat([]byte{128}, 9), api.ErrShort},
	{[]byte{128, 0}, api.ErrMalformed}, {[]byte{255, 0}, api.ErrMalformed}, {[]byte{128, 0, 5}, api.ErrMalformed},
	{[]byte{128, 128, 0}, api.ErrMalformed}, {nines(0), api.ErrMalformed},
	{nines(2), api.ErrMalformed}, {nines(127), api.ErrMalformed},
	{append(bytes.Repeat([]byte{128}, 9), 2), api.ErrMalformed},
	{nines(128), api.ErrMalformed}, {nines(255), api.ErrMalformed},
	{nines(128, 0), api.ErrMalformed}, {nines(129, 1), api.ErrMalformed}, {nines(255, 255, 255), api.ErrMalformed},
	{bytes.Repeat([]byte{128}, 10), api.ErrMalformed}, {bytes.Repeat([]byte{128}, 11), api.ErrMalformed},
}

// P1.3
func TestBrokenNumbers(t *testing.T) {
	for _, c := range brokenNumbers {
		r := varint.New(c.b)
		for _, most := range []uint64{0, 9, math.MaxUint64} {
			if n, e := r.Num(most); n != 0 || e != c.want || !stays(r, c.b) {
				t.Errorf("Num(%d) of %v = %d, %d, want %d", most, c.b, n, e, c.want)
			}
		}
		if n, e := r.Int(); n != 0 || e != c.want || !stays(r, c.b) {
			t.Errorf("Int of %v = %d, %d, want %d", c.b, n, e, c.want)
		}
		for _, most := range []int{math.MinInt, -1, 0, 9, math.MaxInt} {
			if b, e := r.Bytes(most); len(b) != 0 || e != c.want || !stays(r, c.b) {
				t.Errorf("Bytes(%d) of %v = %v, %d, want %d", most, c.b, b, e, c.want)
			}
		}
	}
}

// P1.3
func TestBytesReads(t *testing.T) {
	long := append([]byte{130, 1}, bytes.Repeat([]byte{6}, 130)...)
	for _, c := range []struct {
		b    []byte
		most int
		want []byte
		at   int
	}{
		{[]byte{0}, 0, nil, 1}, {[]byte{0, 5}, 9, nil, 1},
		{[]byte{2, 97, 98}, 5, []byte("ab"), 3}, {[]byte{2, 97, 98}, 2, []byte("ab"), 3},
		{[]byte{2, 97, 98, 99}, math.MaxInt, []byte("ab"), 3},
		{long, 130, long[2:], 132},
	} {
		r := varint.New(c.b)
		if b, e := r.Bytes(c.most); !bytes.Equal(b, c.want) || e != api.OK || r.At() != c.at || r.Left() != len(c.b)-c.at {
			t.Errorf("Bytes(%d) of %v = %v, %d at %d", c.most, c.b, b, e, r.At())
		}
	}
}

// P1.3
func TestBytesThatDoNotFit(t *testing.T) {
	for _, c := range []struct {
		b    []byte
		most int
		want api.Errno
	}{
		{[]byte{2, 97, 98}, 1, api.ErrLong}, {[]byte{1, 97}, 0, api.ErrLong},
		{[]byte{0}, -1, api.ErrLong}, {[]byte{1, 97}, -1, api.ErrLong}, {[]byte{0}, math.MinInt, api.ErrLong},
		{[]byte{2, 97}, 5, api.ErrShort}, {[]byte{2}, 2, api.ErrShort}, {[]byte{130, 1, 5}, 130, api.ErrShort},
		// Too long and too short: the length is compared with the maximum first.
		{[]byte{2, 97}, 1, api.ErrLong}, {[]byte{9}, -1, api.ErrLong},
		// Lengths that are no ints, or just so.
		{nines(1), 9, api.ErrLong}, {nines(1), math.MaxInt, api.ErrLong}, {nines(1), -1, api.ErrLong},
		{written(func(w *varint.Writer) { w.Num(1 << 63) }), math.MaxInt, api.ErrLong},
		{written(func(w *varint.Writer) { w.Num(1<<63 - 1) }), math.MaxInt, api.ErrShort},
	} {
		r := varint.New(c.b)
		if b, e := r.Bytes(c.most); len(b) != 0 || e != c.want || !stays(r, c.b) {
			t.Errorf("Bytes(%d) of %v = %v, %d at %d, want %d", c.most, c.b, b, e, r.At(), c.want)
		}
	}
}

// P1.3
func TestRaw(t *testing.T) {
	r := varint.New([]byte{7, 8, 255, 0})
	for i, c := range []struct {
		n    int
		want []byte
		e    api.Errno
		at   int
	}{
		{-1, nil, api.ErrArg, 0}, {math.MinInt, nil, api.ErrArg, 0},
		{5, nil, api.ErrShort, 0}, {math.MaxInt, nil, api.ErrShort, 0},
		{0, nil, api.OK, 0}, {1, []byte{7}, api.OK, 1}, {4, nil, api.ErrShort, 1}, {3, []byte{8, 255, 0}, api.OK, 4},
		{0, nil, api.OK, 4}, {1, nil, api.ErrShort, 4}, {-1, nil, api.ErrArg, 4},
	} {
		if b, e := r.Raw(c.n); !bytes.Equal(b, c.want) || e != c.e || r.At() != c.at || r.Left() != 4-c.at {
			t.Errorf("call %d: Raw(%d) = %v, %d at %d", i, c.n, b, e, r.At())
		}
	}
}

// P1.3 and P1.4: the examples of the chapter.
func TestReaderExamples(t *testing.T) {
	r := varint.New([]byte{172, 2, 5})
	if n, e := r.Num(1000); n != 300 || e != api.OK || r.At() != 2 {
		t.Error(n, e, r.At())
	}
	if n, e := r.Num(4); n != 0 || e != api.ErrRange {
		t.Error(n, e)
	}
	if n, e := r.Num(5); n != 5 || e != api.OK || r.End() != api.OK {
		t.Error(n, e, r.End())
	}
	r = varint.New([]byte{7, 8})
	if b, e := r.Raw(1); !bytes.Equal(b, []byte{7}) || e != api.OK || r.End() != api.ErrMalformed {
		t.Error(b, e, r.End())
	}
}

// P1.4
func TestLeftAtAndEnd(t *testing.T) {
	b := []byte{172, 2, 5, 1, 97, 9}
	r := varint.New(b)
	at := func(want int) {
		t.Helper()
		end := api.ErrMalformed
		if want == len(b) {
			end = api.OK
		}
		if r.At() != want || r.Left() != len(b)-want || r.End() != end {
			t.Errorf("at %d, %d left, end %d, want at %d", r.At(), r.Left(), r.End(), want)
		}
	}
	at(0)
	r.Num(300)
	at(2)
	r.Int()
	at(3)
	r.Bytes(1)
	at(5)
	r.Raw(1)
	at(6)
	r.Num(9)
	at(6)
}

// P1.4: reading begins anew behind what was read, with its own ten bytes.
func TestErrorsBehindTheFront(t *testing.T) {
	for _, c := range brokenNumbers {
		r := varint.New(append([]byte{128, 1}, c.b...))
		if n, e := r.Num(128); n != 128 || e != api.OK {
			t.Fatal(n, e)
		}
		if n, e := r.Num(math.MaxUint64); n != 0 || e != c.want || r.At() != 2 || r.Left() != len(c.b) {
			t.Errorf("Num of %v = %d, %d at %d, want %d", c.b, n, e, r.At(), c.want)
		}
	}
}

// P1.4
func TestReaderOfNoBytes(t *testing.T) {
	for _, b := range [][]byte{nil, {}} {
		r := varint.New(b)
		if r.Left() != 0 || r.At() != 0 || r.End() != api.OK {
			t.Error(r.Left(), r.At(), r.End())
		}
		if got, e := r.Raw(0); len(got) != 0 || e != api.OK {
			t.Error(got, e)
		}
		if c := r.Copy(); c == nil || c.End() != api.OK {
			t.Error("the copy is not usable")
		}
	}
}

// P1.4
func TestCopyGoesOnIndependently(t *testing.T) {
	r := varint.New([]byte{1, 2, 3})
	r.Num(9)
	c := r.Copy()
	if c.At() != 1 || c.Left() != 2 {
		t.Error(c.At(), c.Left())
	}
	if n, _ := r.Num(9); n != 2 || c.At() != 1 {
		t.Error(n, c.At())
	}
	if b, _ := c.Raw(2); !bytes.Equal(b, []byte{2, 3}) || r.At() != 2 || r.Left() != 1 {
		t.Error(b, r.At())
	}
	if n, _ := r.Num(9); n != 3 || c.At() != 3 {
		t.Error(n, c.At())
	}
}

// P1.3, P1.4, and the rule that nothing is shared.
func TestReaderSharesNoMemory(t *testing.T) {
	data := []byte{2, 97, 98, 7, 8, 9}
	r := varint.New(data)
	c := r.Copy()
	clear(data)
	first, _ := r.Bytes(2)
	second, _ := r.Raw(1)
	if !bytes.Equal(first, []byte("ab")) || !bytes.Equal(second, []byte{7}) {
		t.Errorf("a changed argument changes what is read to %v, %v", first, second)
	}
	_ = append(first, 99, 99)
	_ = append(second, 99, 99)
	clear(first)
	clear(second)
	if b, _ := r.Raw(2); !bytes.Equal(b, []byte{8, 9}) {
		t.Errorf("a changed result changes what is read to %v", b)
	}
	if b, _ := c.Raw(6); !bytes.Equal(b, []byte{2, 97, 98, 7, 8, 9}) {
		t.Errorf("a changed result changes what the copy reads to %v", b)
	}
	if slices.Max(data) != 0 {
		t.Errorf("the argument was changed to %v", data)
	}
}

// Section Errors: a nil Reader, and a zero one.
func TestNilAndZeroReader(t *testing.T) {
	for i, r := range []*varint.Reader{nil, {}} {
		if n, e := r.Num(1); n != 0 || e != api.ErrNil {
			t.Error(i, n, e)
		}
		if n, e := r.Int(); n != 0 || e != api.ErrNil {
			t.Error(i, n, e)
		}
		for _, most := range []int{-1, 0, 1} {
			if b, e := r.Bytes(most); len(b) != 0 || e != api.ErrNil {
				t.Error(i, most, b, e)
			}
			if b, e := r.Raw(most); len(b) != 0 || e != api.ErrNil {
				t.Error(i, most, b, e)
			}
		}
		if r.Left() != 0 || r.At() != 0 || r.End() != api.ErrNil || r.Copy() != nil {
			t.Error(i, r.Left(), r.At(), r.End(), r.Copy())
		}
	}
}
