package varint

import "slices"

// Writer writes bytes; the zero value is ready for use.
type Writer struct{ data []byte }

// Num writes numbers, Int signed numbers, Put bytes with their length, Raw bytes as they are.
func (w *Writer) Num(l ...uint64) {
	if w == nil {
		return
	}
	for _, n := range l {
		w.data = appendNumber(w.data, n)
	}
}
func (w *Writer) Int(l ...int) {
	for _, n := range l {
		w.Num(Zig(n))
	}
}
func (w *Writer) Put(b []byte) {
	w.Num(uint64(len(b)))
	w.Raw(b)
}
func (w *Writer) Raw(b []byte) {
	if w == nil {
		return
	}
	w.data = append(w.data, b...)
}

// appendNumber returns data with the bytes of n behind them.
func appendNumber(data []byte, n uint64) []byte {
	for ; n >= more; n >>= groupBits {
		data = append(data, byte(n)|more)
	}
	return append(data, byte(n))
}

// Len returns how many bytes were written, Bytes these.
func (w *Writer) Len() int {
	if w == nil {
		return 0
	}
	return len(w.data)
}
func (w *Writer) Bytes() []byte {
	if w == nil {
		return nil
	}
	// The writer goes on with its own bytes, whatever happens to the result.
	return slices.Clone(w.data)
}
