package canon_test

import (
	"bytes"
	"slices"
	"testing"

	"redpencil/api"
	"redpencil/canon"
)

// P17.2: the chapter's examples, and edge cases of each part, byte by byte.
func TestContext(t *testing.T) {
	for _, c := range []struct{ context, want string }{
		{"1.2 / 3.300", "1 1 2 1 3 172 2"},
		{"- / -", "0 0"},
		// A vector alone, a cloud alone.
		{"1.1 / -", "1 1 1 0"},
		{"1.127 64.128 / -", "2 1 127 64 128 1 0"},
		{"- / 1.2", "0 1 1 2"},
		{"- / 64.2 1.4 2.4 1.128", "0 4 64 2 1 4 2 4 1 128 1"},
		// In the cloud the whole counters stand, not what lies between them.
		{"2.1 / 1.5 2.5 1.7", "1 2 1 3 1 5 2 5 1 7"},
		// The greatest replica and the greatest counter.
		{"64.4294967295 / -", "1 64 255 255 255 255 15 0"},
		{"- / 64.4294967295", "0 1 64 255 255 255 255 15"},
		{"1.16383 63.16384 / 1.4294967294 64.4294967295", "2 1 255 127 63 128 128 1 2 1 254 255 255 255 15 64 255 255 255 255 15"},
	} {
		got, e := canon.Context(ctx(c.context))
		if !bytes.Equal(got, raw(c.want)) || e != api.OK {
			t.Errorf("Context(%s) = %v, %d, want %s", c.context, got, e, c.want)
		}
	}
}

// P17.2
func TestBytesOfContexts(t *testing.T) {
	for _, c := range contexts() {
		want, _ := expectedContext(c)
		got, e := canon.Context(c)
		if !bytes.Equal(got, want) || e != api.OK {
			t.Fatalf("Context(%v) = %v, %d, want %v", c, got, e, want)
		}
	}
}

// P17.2: contexts that are not valid, or valid, but not compact.
func TestContextsThatAreNotAllowed(t *testing.T) {
	for _, c := range noContexts() {
		if b, e := canon.Context(c); b != nil || e != api.ErrArg {
			t.Fatalf("Context(%v) = %v, %d", c, b, e)
		}
	}
}

// P17.2: as many dots as there may be in the cloud, and one more; what is not valid, or not compact, is so whether it is too long or not.
func TestTheGreatestNumberOfDots(t *testing.T) {
	for _, size := range []int{65535, 65536, 65537, 70000} {
		cloud := cloudOf(size)
		odd := slices.Clone(cloud)
		odd[size-1] = at(64, 4294967295)
		for _, c := range []api.Context{{Cloud: cloud}, {Cloud: odd}, {Vector: everything().Vector[:0], Cloud: cloud}, {Vector: dots("64.1"), Cloud: cloudOf(size + 64)[64:]}} {
			want, err := expectedContext(c)
			if got, e := canon.Context(c); !bytes.Equal(got, want) || e != err || (e == api.ErrLong) != (size > 65536) || e == api.ErrArg {
				t.Errorf("Context of %d dots = %v, %d, want %d", size, got[:min(len(got), 20)], e, err)
			}
		}
		twice := slices.Clone(cloud)
		twice[size-1] = twice[size-2]
		bad := slices.Clone(cloud)
		bad[0] = at(0, 1)
		vector := make(api.Vector, size)
		for i := range vector {
			vector[i] = at(1+i, 1)
		}
		for _, c := range []api.Context{{Cloud: twice}, {Cloud: bad}, {Vector: dots("1.1"), Cloud: cloud}, {Vector: dots("1.9"), Cloud: cloud}, {Vector: dots("65.1"), Cloud: cloud}, {Vector: vector}, {Vector: vector, Cloud: cloud}} {
			if b, e := canon.Context(c); b != nil || e != api.ErrArg {
				t.Errorf("Context of %d dots that are not allowed = %v, %d", size, b[:min(len(b), 20)], e)
			}
		}
	}
}
