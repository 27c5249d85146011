package varint

import (
	"math"

	"redpencil/api"
)

// Reader reads bytes from the front.
type Reader struct {
	data string // a string, because copies share it, and nobody may write to it
	at   int
	made bool // by New: only so a reader of no bytes is not a zero one
}

// New returns a reader of some bytes.
func New(b []byte) *Reader { return &Reader{data: string(b), made: true} }

// Num reads a number that is at most a maximum, Int a signed number, Bytes as many bytes as the length before them says, at most a maximum, Raw some bytes as they are; or they return an error.
func (r *Reader) Num(most uint64) (uint64, api.Errno) {
	if r.isZero() {
		return 0, api.ErrNil
	}
	n, size, e := parse(r.data[r.at:])
	if e != api.OK {
		return 0, e
	}
	if n > most {
		return 0, api.ErrRange
	}
	r.at += size
	return n, api.OK
}
func (r *Reader) Int() (int, api.Errno) {
	n, e := r.Num(math.MaxUint64)
	if e != api.OK {
		return 0, e
	}
	return Zag(n), api.OK
}
func (r *Reader) Bytes(most int) ([]byte, api.Errno) {
	if r.isZero() {
		return nil, api.ErrNil
	}
	n, size, e := parse(r.data[r.at:])
	if e != api.OK {
		return nil, e
	}
	if most < 0 || n > uint64(most) {
		return nil, api.ErrLong
	}
	start := r.at + size
	if n > uint64(len(r.data)-start) {
		return nil, api.ErrShort
	}
	r.at = start + int(n)
	return []byte(r.data[start:r.at]), api.OK
}
func (r *Reader) Raw(n int) ([]byte, api.Errno) {
	if r.isZero() {
		return nil, api.ErrNil
	}
	if n < 0 {
		return nil, api.ErrArg
	}
	if n > r.Left() {
		return nil, api.ErrShort
	}
	start := r.at
	r.at += n
	return []byte(r.data[start:r.at]), api.OK
}

// isZero reports whether New has not made the reader.
func (r *Reader) isZero() bool { return r == nil || !r.made }

// parse returns the number whose bytes data begin with, and how many these are, or an error.
func parse(data string) (uint64, int, api.Errno) {
	var n uint64
	for i := range min(len(data), maxSize) {
		c := data[i]
		if i == maxSize-1 && c > lastMost {
			// Too large, or an eleventh byte would have to follow: the error is the same.
			return 0, 0, api.ErrMalformed
		}
		n |= uint64(c&^more) << (i * groupBits)
		if c >= more {
			continue
		}
		if c == 0 && i > 0 {
			// Without this last byte the number would be the same.
			return 0, 0, api.ErrMalformed
		}
		return n, i + 1, api.OK
	}
	return 0, 0, api.ErrShort
}

// Left returns how many bytes are left, At how many were read.
func (r *Reader) Left() int {
	if r.isZero() {
		return 0
	}
	return len(r.data) - r.at
}
func (r *Reader) At() int {
	if r.isZero() {
		return 0
	}
	return r.at
}

// End returns an error if bytes are left.
func (r *Reader) End() api.Errno {
	if r.isZero() {
		return api.ErrNil
	}
	if r.Left() > 0 {
		return api.ErrMalformed
	}
	return api.OK
}

// Copy returns an independent copy.
func (r *Reader) Copy() *Reader {
	if r.isZero() {
		return nil
	}
	c := *r
	return &c
}
