package crc_test

import (
	"bytes"
	"slices"
	"testing"

	"redpencil/api"
	"redpencil/crc"
)

// P3.4
func TestPartsHaveTheSumOfTheWhole(t *testing.T) {
	for _, b := range strange() {
		if len(b) > 300 {
			continue
		}
		want := crc.Sum(b)
		for between := range len(b) + 1 {
			if n := crc.Update(crc.Sum(b[:between]), b[between:]); n != want {
				t.Fatalf("%v and %v: %x, want %x", b[:between], b[between:], n, want)
			}
		}
		sum := crc.Sum(nil)
		for _, x := range b {
			sum = crc.Update(crc.Update(sum, []byte{x}), nil)
		}
		if sum != want {
			t.Fatalf("%v byte by byte: %x, want %x", b, sum, want)
		}
	}
}

// changed calls f with b after each change of one byte, and with the place of that byte.
func changed(b []byte, f func(at int, b []byte)) {
	for at, was := range b {
		for x := 1; x < 256; x++ {
			b[at] = was ^ byte(x)
			f(at, b)
		}
		b[at] = was
	}
}

// P3.4
func TestAChangedByteChangesTheSum(t *testing.T) {
	for _, b := range strange() {
		if len(b) > 300 {
			continue
		}
		want := crc.Sum(b)
		changed(slices.Clone(b), func(at int, other []byte) {
			if n := crc.Sum(other); n == want {
				t.Fatalf("%v and %v differ at %d: both have %x", b, other, at, n)
			}
		})
	}
}

// P3.4
func TestOpenInvertsAppend(t *testing.T) {
	for _, b := range append(short(), strange()...) {
		whole := crc.Append(b)
		if back, e := crc.Open(whole); !bytes.Equal(back, b) || e != api.OK {
			t.Fatalf("Open(%v) = %v, %d, want %v", whole, back, e, b)
		}
		twice := crc.Append(whole)
		if back, e := crc.Open(twice); !bytes.Equal(back, whole) || e != api.OK {
			t.Fatalf("Open(%v) = %v, %d, want %v", twice, back, e, whole)
		}
	}
}

// P3.4: also if the byte is one of the check sum.
func TestOpenOfAChangedByte(t *testing.T) {
	for _, b := range strange() {
		if len(b) > 300 {
			continue
		}
		changed(crc.Append(b), func(at int, other []byte) {
			if got, e := crc.Open(other); len(got) != 0 || e != api.ErrCheck {
				t.Fatalf("changed at %d: Open(%v) = %v, %d", at, other, got, e)
			}
		})
	}
}

// The rule that arguments are not modified: neither their bytes nor the room behind them.
func TestArgumentsStayAsTheyAre(t *testing.T) {
	for _, b := range strange() {
		for _, content := range [][]byte{b, withSum(b)} {
			room := append(slices.Clone(content), 1, 2, 3, 4, 5, 6, 7, 8)
			before := slices.Clone(room)
			given := room[:len(content)]
			crc.Sum(given)
			crc.Update(7, given)
			crc.Append(given)
			crc.Open(given)
			if !bytes.Equal(room, before) {
				t.Fatalf("%v became %v", before, room)
			}
		}
	}
}

// The rule that results share no memory: with the argument, or with other results.
func TestResultsShareNoMemory(t *testing.T) {
	for _, content := range [][]byte{nil, []byte("a"), []byte("123456789"), mixed(100)} {
		room := append(slices.Clone(content), make([]byte, 50)...)
		given := room[:len(content)]
		whole := withSum(content)
		handed := append(slices.Clone(whole), make([]byte, 50)...)[:len(whole)]

		first, second := crc.Append(given), crc.Append(given)
		opened, _ := crc.Open(handed)
		again, _ := crc.Open(handed)
		// What is done with the arguments and with one of two results changes nothing of the other one.
		overwrite(room)
		overwrite(handed[:cap(handed)])
		overwrite(first[:cap(first)])
		overwrite(opened[:cap(opened)])
		crc.Append([]byte("another"))
		crc.Open(withSum([]byte("another")))
		if !bytes.Equal(second, whole) || !bytes.Equal(again, content) {
			t.Errorf("%v became %v, and %v became %v", whole, second, content, again)
		}
	}
}

// overwrite gives each byte of b another value.
func overwrite(b []byte) {
	for i := range b {
		b[i] += 85
	}
}

// What was returned before is not changed by what a later result is used for.
func TestResultsLeaveArgumentsAlone(t *testing.T) {
	given := append(make([]byte, 0, 100), "abc"...)
	whole := crc.Append(given)
	overwrite(whole[:cap(whole)])
	handed := append(make([]byte, 0, 100), withSum(given)...)
	opened, _ := crc.Open(handed)
	_ = append(opened, 9, 9, 9, 9, 9)
	overwrite(opened[:cap(opened)])
	if string(given) != "abc" || !bytes.Equal(handed, withSum([]byte("abc"))) {
		t.Errorf("%v and %v", given, handed)
	}
}

// Nothing depends on earlier calls.
func TestEqualCallsHaveEqualResults(t *testing.T) {
	for _, b := range strange() {
		sum, whole := crc.Sum(b), crc.Append(b)
		crc.Sum([]byte("another"))
		crc.Update(sum, []byte("another"))
		crc.Open([]byte("another"))
		crc.Parse("another")
		if again := crc.Sum(b); again != sum || crc.Update(0, b) != sum {
			t.Fatalf("Sum(%v) = %x, and then %x", b, sum, again)
		}
		if again := crc.Append(b); !bytes.Equal(again, whole) {
			t.Fatalf("Append(%v) = %v, and then %v", b, whole, again)
		}
	}
}

// P1: no call panics, whatever its arguments are.
func TestEveryCallReturns(t *testing.T) {
	for _, b := range append(short(), strange()...) {
		crc.Sum(b)
		crc.Update(crc.Sum(b), b)
		crc.Append(b)
		crc.Open(b)
		crc.Parse(string(b))
		crc.Parse("c1d043" + string(b))
	}
	for _, n := range numbers() {
		crc.Text(n)
	}
}
