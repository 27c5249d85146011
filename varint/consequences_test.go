package varint_test

import (
	"bytes"
	"math"
	"math/big"
	"slices"
	"testing"

	"redpencil/api"
	"redpencil/varint"
)

// P1.5
func TestWhatWasWrittenIsReadAgain(t *testing.T) {
	var w varint.Writer
	for i, n := range edges() {
		w.Num(n)
		w.Int(int(n))
		w.Put(make([]byte, i))
		w.Raw([]byte{byte(i), 255})
	}
	r := varint.New(w.Bytes())
	for i, n := range edges() {
		if got, e := r.Num(n); got != n || e != api.OK {
			t.Fatal(i, n, got, e)
		}
		if got, e := r.Int(); got != int(n) || e != api.OK {
			t.Fatal(i, int(n), got, e)
		}
		if got, e := r.Bytes(i); len(got) != i || e != api.OK {
			t.Fatal(i, got, e)
		}
		if got, e := r.Raw(2); !bytes.Equal(got, []byte{byte(i), 255}) || e != api.OK {
			t.Fatal(i, got, e)
		}
	}
	if r.Left() != 0 || r.At() != w.Len() || r.End() != api.OK {
		t.Error(r.Left(), r.At(), r.End())
	}
}

// expected says what is read as a number, word by word as the chapter defines it: the number, how many bytes it has, and the error.
func expected(b []byte, most uint64) (uint64, int, api.Errno) {
	looked := b[:min(10, len(b))]
	last := slices.IndexFunc(looked, func(c byte) bool { return c < 128 })
	if last < 0 && len(b) < 10 {
		return 0, 0, api.ErrShort
	}
	if last < 0 || last > 0 && looked[last] == 0 {
		return 0, 0, api.ErrMalformed
	}
	sum := new(big.Int)
	for i := last; i >= 0; i-- {
		sum.Add(sum.Lsh(sum, 7), big.NewInt(int64(looked[i]%128)))
	}
	if !sum.IsUint64() {
		return 0, 0, api.ErrMalformed
	}
	if sum.Uint64() > most {
		return 0, 0, api.ErrRange
	}
	return sum.Uint64(), last + 1, api.OK
}

// inputs returns bytes in front of which there may be a number: all short ones of some bytes, and long ones up to the end of a number and beyond.
func inputs() [][]byte {
	some := []byte{0, 1, 2, 127, 128, 129, 255}
	l := [][]byte{nil}
	for from, size := 0, 0; size < 4; size++ {
		to := len(l)
		for _, b := range l[from:to] {
			for _, c := range some {
				l = append(l, append(b[:len(b):len(b)], c))
			}
		}
		from = to
	}
	for _, c := range []byte{128, 129, 200, 255} {
		for size := range 13 {
			for last := range 256 {
				l = append(l, append(bytes.Repeat([]byte{c}, size), byte(last)))
			}
		}
	}
	return l
}

// P1.3 and P1.5
func TestWhatIsReadHasItsBytes(t *testing.T) {
	for _, b := range inputs() {
		for _, most := range []uint64{0, 1, 300, 1<<63 - 1, math.MaxUint64} {
			want, size, err := expected(b, most)
			r := varint.New(b)
			n, e := r.Num(most)
			if n != want || e != err || r.At() != size {
				t.Fatalf("Num(%d) of %v = %d, %d at %d, want %d, %d at %d", most, b, n, e, r.At(), want, err, size)
			}
			if e != api.OK {
				continue
			}
			again := written(func(w *varint.Writer) { w.Num(n) })
			if !bytes.Equal(again, b[:size]) {
				t.Fatalf("%d is read of %v, and written as %v", n, b[:size], again)
			}
		}
		signed := varint.New(b)
		if n, e := signed.Int(); e == api.OK {
			again := written(func(w *varint.Writer) { w.Int(n) })
			if !bytes.Equal(again, b[:signed.At()]) {
				t.Fatalf("%d is read of %v, and written as %v", n, b[:signed.At()], again)
			}
		}
	}
}

// P1: no call panics, and a call with an error reads nothing.
func TestEveryCallReturns(t *testing.T) {
	extremes := []int{math.MinInt, math.MinInt + 1, -1, 0, 1, 2, math.MaxInt - 1, math.MaxInt}
	for _, b := range inputs() {
		for _, n := range extremes {
			r := varint.New(b)
			before := r.At()
			if got, e := r.Bytes(n); e != api.OK && (len(got) != 0 || r.At() != before) {
				t.Fatalf("Bytes(%d) of %v = %v, %d at %d", n, b, got, e, r.At())
			}
			before = r.At()
			if got, e := r.Raw(n); e != api.OK && (len(got) != 0 || r.At() != before) {
				t.Fatalf("Raw(%d) of %v = %v, %d at %d", n, b, got, e, r.At())
			}
			if r.At()+r.Left() != len(b) || (r.End() == api.OK) != (r.Left() == 0) {
				t.Fatalf("%v: at %d, %d left, end %d", b, r.At(), r.Left(), r.End())
			}
		}
	}
}
