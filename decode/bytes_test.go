package decode_test

import (
	"slices"
	"testing"
)

// counts is how often each function had no error.
type counts struct{ states, prefixes, contexts int }

// add counts one call more of each.
func (c *counts) add(a accepted) {
	for _, one := range []struct {
		is    bool
		count *int
	}{{a.state, &c.states}, {a.prefix, &c.prefixes}, {a.context, &c.contexts}} {
		if one.is {
			*one.count++
		}
	}
}

// atLeast finds whether too little was accepted for a test to say much.
func (c counts) atLeast(t *testing.T, states, prefixes, contexts int) {
	t.Helper()
	if c.states < states || c.prefixes < prefixes || c.contexts < contexts {
		t.Errorf("only %v were accepted", c)
	}
}

// checkAll checks bytes with up to some more behind them, taken from a list in every way.
func checkAll(t *testing.T, c *counts, p []byte, more int, from []byte) {
	t.Helper()
	c.add(check(t, p))
	if more == 0 {
		return
	}
	for _, b := range from {
		checkAll(t, c, append(slices.Clone(p), b), more-1, from)
	}
}

// P18.1, P18.2: all short bytes of a few values, and all that begin like something longer, are accepted or refused as the definitions say.
func TestShortBytes(t *testing.T) {
	var c counts
	for _, x := range []struct {
		begin string
		more  int
		from  string
	}{
		{"", 2, ""},
		{"", 7, "0 1 2 3 97 128"},
		{"", 4, "0 1 2 4 63 64 65 127 128 129 194 255"},
		{"1 1 1 0 2", 4, "0 1 2 3 4 97 127 128 159 160 169 191 193 194 195 224 226 237 239 240 244 255"},
		{"1 1 1 0 3", 4, "0 1 2 97 128 255"},
		{"1 2 1", 6, "0 1 2 97 128"},
		{"1 64 255 255 255 255", 6, "0 1 2 15 16 64"},
		{"2 1 1 0 3", 6, "0 1 2 3 128"},
		{"2 1 1 0 2", 7, "0 1 2 3 97"},
		{"2 1 254 255 255 255 15 0 3", 6, "0 1 2 3 5"},
		{"1 1 1 0 129 128 128 128 128 128 128 128", 4, "0 1 127 128 129"},
		{"2 1 1 2 3", 6, "0 1 2 3 4 128"},
		{"0 2", 6, "0 1 2 3 128"},
		{"0 3 1 3", 5, "0 1 2 3 4 5"},
		{"1 1 255 255 255 255", 6, "0 1 2 14 15 16"},
	} {
		from := raw(x.from)
		if len(from) == 0 {
			for b := range 256 {
				from = append(from, byte(b))
			}
		}
		checkAll(t, &c, raw(x.begin), x.more, from)
	}
	c.atLeast(t, 5000, 20000, 100000)
}

// someBytes returns the bytes of states and contexts of all kinds that are not long.
func someBytes() [][]byte {
	var all [][]byte
	for i, s := range states() {
		if p := written(s); i%5 == 0 && len(p) < 120 {
			all = append(all, p)
		}
	}
	for i, c := range contexts() {
		if p := writtenContext(c); i%9 == 0 && len(p) < 120 {
			all = append(all, p)
		}
	}
	return append(all, raw("0 0"), raw("1 1 1 0 2 1 97"), raw("1 1 1 0 3 0"), raw("1 64 255 255 255 255 15 63 255 255 255 255 15 128 128 128 128 128 128 128 128 128 1 4 244 143 191 191"))
}

// P18.1, P18.2: in bytes one byte was replaced, taken out or put in, at each place.
func TestEachByteCounts(t *testing.T) {
	var c counts
	values := raw("0 1 2 3 15 16 63 64 65 97 127 128 129 169 191 192 194 195 224 237 240 244 254 255")
	for i, p := range someBytes() {
		from := values
		if i%40 == 0 {
			from = nil
			for b := range 256 {
				from = append(from, byte(b))
			}
		}
		for place := range len(p) + 1 {
			for _, b := range from {
				c.add(check(t, slices.Insert(slices.Clone(p), place, b)))
				if place < len(p) {
					c.add(check(t, slices.Replace(slices.Clone(p), place, place+1, b)))
				}
			}
			if place < len(p) {
				c.add(check(t, slices.Delete(slices.Clone(p), place, place+1)))
			}
		}
	}
	c.atLeast(t, 5000, 10000, 10000)
}

// chance is a row of numbers that look as if they were thrown, the same ones in every run.
type chance struct{ last uint64 }

// below returns the next number, below a limit.
func (c *chance) below(limit int) int {
	c.last = c.last*6364136223846793005 + 1442695040888963407
	return int(c.last >> 33 % uint64(limit))
}

// P18.1, P18.2: bytes that were changed in some places, or put together of pieces of others.
func TestBytesThatWereChangedOften(t *testing.T) {
	var c counts
	all := someBytes()
	by := chance{1}
	for range 150000 {
		p := slices.Clone(all[by.below(len(all))])
		for range 1 + by.below(4) {
			from, to := by.below(len(p)+1), by.below(len(p)+1)
			switch from, to = min(from, to), max(from, to); by.below(6) {
			case 0:
				p = slices.Delete(p, from, to)
			case 1:
				other := all[by.below(len(all))]
				p = slices.Replace(p, from, to, other[by.below(len(other)):]...)
			case 2:
				p = slices.Insert(p, to, p[from:to]...)
			case 3:
				p = slices.Insert(p, from, byte(by.below(256)))
			default:
				if from < len(p) {
					p[from] += byte(by.below(5)) - 2
				}
			}
		}
		c.add(check(t, p))
	}
	c.atLeast(t, 5000, 10000, 10000)
}

// P18.1, P18.2: bytes that mean nothing.
func TestBytesByChance(t *testing.T) {
	var c counts
	by := chance{2}
	for range 200000 {
		p := make([]byte, by.below(40))
		most := []int{3, 5, 130, 256}[by.below(4)]
		for i := range p {
			p[i] = byte(by.below(most))
		}
		c.add(check(t, p))
	}
	c.atLeast(t, 100, 5000, 10000)
}
