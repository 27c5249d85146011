package varint_test

import (
	"bytes"
	"math"
	"math/big"
	"slices"
	"testing"

	"redpencil/varint"
)

// written returns what was written by some calls to a new writer.
func written(write func(w *varint.Writer)) []byte {
	var w varint.Writer
	write(&w)
	return w.Bytes()
}

// nines returns nine bytes 255, and some more.
func nines(last ...byte) []byte { return append(bytes.Repeat([]byte{255}, 9), last...) }

// P1.2
func TestWriterWritesNumbers(t *testing.T) {
	for _, c := range []struct {
		n    uint64
		want []byte
	}{
		{0, []byte{0}}, {1, []byte{1}}, {127, []byte{127}},
		{128, []byte{128, 1}}, {129, []byte{129, 1}}, {255, []byte{255, 1}}, {256, []byte{128, 2}},
		{300, []byte{172, 2}}, {16383, []byte{255, 127}}, {16384, []byte{128, 128, 1}},
		{1<<63 - 1, []byte{255, 255, 255, 255, 255, 255, 255, 255, 127}},
		{1 << 63, []byte{128, 128, 128, 128, 128, 128, 128, 128, 128, 1}},
		{math.MaxUint64, nines(1)},
	} {
		if got := written(func(w *varint.Writer) { w.Num(c.n) }); !bytes.Equal(got, c.want) {
			t.Errorf("Num(%d) writes %v, want %v", c.n, got, c.want)
		}
		if got := written(func(w *varint.Writer) { w.Int(varint.Zag(c.n)) }); !bytes.Equal(got, c.want) {
			t.Errorf("Int(%d) writes %v, want %v", varint.Zag(c.n), got, c.want)
		}
	}
}

// P1.2: the definition, word by word.
func TestWriterWritesGroupsOfSevenBits(t *testing.T) {
	for _, n := range edges() {
		b := written(func(w *varint.Writer) { w.Num(n) })
		sum := new(big.Int)
		for i, c := range b {
			last := i == len(b)-1
			if last != (c < 128) {
				t.Errorf("%d: the byte %d of %v does not say whether another one follows", n, i, b)
			}
			if last && c == 0 && i > 0 {
				t.Errorf("%d: %v has too many groups", n, b)
			}
			group := new(big.Int).SetUint64(uint64(c % 128))
			sum.Add(sum, group.Lsh(group, uint(7*i)))
		}
		if !sum.IsUint64() || sum.Uint64() != n {
			t.Errorf("%v are the groups of %v, want %d", b, sum, n)
		}
	}
}

// P1.2
func TestWriterWritesOneAfterTheOther(t *testing.T) {
	var w varint.Writer
	want := []byte{}
	for i, c := range []struct {
		write func()
		comes []byte
	}{
		{func() { w.Num() }, nil},
		{func() { w.Int() }, nil},
		{func() { w.Raw(nil) }, nil},
		{func() { w.Num(5, 300, 0) }, []byte{5, 172, 2, 0}},
		{func() { w.Int(-3, 0, 150, -1) }, []byte{5, 0, 172, 2, 1}},
		{func() { w.Put([]byte("ab")) }, []byte{2, 97, 98}},
		{func() { w.Put(nil) }, []byte{0}},
		{func() { w.Put([]byte{}) }, []byte{0}},
		{func() { w.Raw([]byte{7, 200, 0}) }, []byte{7, 200, 0}},
		{func() { w.Raw([]byte{}) }, nil},
		{func() { w.Put(make([]byte, 130)) }, append([]byte{130, 1}, make([]byte, 130)...)},
		{func() { w.Num(1) }, []byte{1}},
	} {
		c.write()
		want = append(want, c.comes...)
		if w.Len() != len(want) || !bytes.Equal(w.Bytes(), want) {
			t.Fatalf("after call %d: %d bytes %v, want %v", i, w.Len(), w.Bytes(), want)
		}
	}
}

// P1.2
func TestNewWriterHasNoBytes(t *testing.T) {
	var w varint.Writer
	if w.Len() != 0 || len(w.Bytes()) != 0 {
		t.Errorf("a zero writer has %v", w.Bytes())
	}
}

// P1.2, and the rule that nothing is shared.
func TestWriterSharesNoMemory(t *testing.T) {
	var w varint.Writer
	raw, put, nums, ints := []byte{1, 2}, []byte{3, 4}, []uint64{5, 6}, []int{-7, 8}
	w.Raw(raw)
	w.Put(put)
	w.Num(nums...)
	w.Int(ints...)
	want := []byte{1, 2, 2, 3, 4, 5, 6, 13, 16}
	if !slices.Equal(raw, []byte{1, 2}) || !slices.Equal(put, []byte{3, 4}) || !slices.Equal(nums, []uint64{5, 6}) || !slices.Equal(ints, []int{-7, 8}) {
		t.Error("an argument was changed")
	}
	raw[0], put[0], nums[0], ints[0] = 90, 91, 92, 93
	if !bytes.Equal(w.Bytes(), want) {
		t.Errorf("a changed argument changes the bytes to %v", w.Bytes())
	}
	first := w.Bytes()
	first[0] = 99
	_ = append(first[:1], 98)
	if !bytes.Equal(w.Bytes(), want) {
		t.Errorf("a changed result changes the bytes to %v", w.Bytes())
	}
	second := w.Bytes()
	_ = append(second, 97)
	w.Num(9)
	_ = append(second, 96)
	if !bytes.Equal(second, want) || !bytes.Equal(w.Bytes(), append(want, 9)) {
		t.Errorf("result %v and bytes %v are not independent", second, w.Bytes())
	}
}

// Section Errors: a nil Writer.
func TestNilWriter(t *testing.T) {
	var w *varint.Writer
	w.Num()
	w.Num(1, 2)
	w.Int(-1)
	w.Put(nil)
	w.Put([]byte{1})
	w.Raw([]byte{1})
	if w.Len() != 0 || len(w.Bytes()) != 0 {
		t.Errorf("a nil writer has %v", w.Bytes())
	}
}
