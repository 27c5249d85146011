package decode_test

import (
	"bytes"
	"slices"
	"testing"

	"redpencil/api"
	"redpencil/decode"
)

// refusedContext checks that bytes begin with those of no context.
func refusedContext(t *testing.T, p []byte) {
	t.Helper()
	if c, n, e := decode.Context(p); c.Vector != nil || c.Cloud != nil || n != 0 || e != api.ErrMalformed {
		t.Errorf("Context(%v) = %v, %v, %d, %d", start(p), start(c.Vector), start(c.Cloud), n, e)
	}
}

// takenContext checks that bytes are those of a context, whatever stands behind them.
func takenContext(t *testing.T, p []byte, want api.Context) {
	t.Helper()
	for _, behind := range [][]byte{nil, {0}, {9}, {128}, {255, 255}, bytes.Repeat([]byte{255}, 20), {0, 0}, p} {
		all := slices.Concat(p, behind)
		if c, n, e := decode.Context(all); !equalContexts(c, want) || n != len(p) || e != api.OK {
			t.Errorf("Context(%v) = %v, %v, %d, %d, want %v, %v, %d", start(all), start(c.Vector), start(c.Cloud), n, e, start(want.Vector), start(want.Cloud), len(p))
		}
	}
}

// P18.2: the chapter's examples.
func TestExamplesOfContexts(t *testing.T) {
	if c, n, e := decode.Context(raw("1 1 2 0 9")); !equalContexts(c, ctx("1.2 / -")) || n != 4 || e != api.OK {
		t.Errorf("Context(1 1 2 0 9) = %v, %d, %d", c, n, e)
	}
	if c, n, e := decode.Context(raw("0 1 1 1")); !equalContexts(c, api.Context{}) || n != 0 || e != api.ErrMalformed {
		t.Errorf("Context(0 1 1 1) = %v, %d, %d", c, n, e)
	}
	if c, n, e := decode.Context(raw("0 1 1 2")); !equalContexts(c, ctx("- / 1.2")) || n != 4 || e != api.OK {
		t.Errorf("Context(0 1 1 2) = %v, %d, %d", c, n, e)
	}
}

// P18.2: edge cases of each part, byte by byte.
func TestContext(t *testing.T) {
	for _, c := range []struct{ bytes, want string }{
		{"0 0", "- / -"},
		{"1 1 2 1 3 172 2", "1.2 / 3.300"},
		// A vector alone, a cloud alone.
		{"1 1 1 0", "1.1 / -"},
		{"2 1 127 64 128 1 0", "1.127 64.128 / -"},
		{"2 1 9 2 3 0", "1.9 2.3 / -"},
		{"0 4 64 2 1 4 2 4 1 128 1", "- / 64.2 1.4 2.4 1.128"},
		{"0 2 1 2 1 3", "- / 1.2 1.3"},
		// In the cloud the whole counters stand, not what lies between them.
		{"1 2 1 3 1 5 2 5 1 7", "2.1 / 1.5 2.5 1.7"},
		{"1 1 2 1 1 4", "1.2 / 1.4"},
		// The greatest replica and the greatest counter.
		{"1 64 255 255 255 255 15 0", "64.4294967295 / -"},
		{"0 1 64 255 255 255 255 15", "- / 64.4294967295"},
		{"1 64 253 255 255 255 15 1 64 255 255 255 255 15", "64.4294967293 / 64.4294967295"},
		{"2 1 255 127 63 128 128 1 2 1 254 255 255 255 15 64 255 255 255 255 15", "1.16383 63.16384 / 1.4294967294 64.4294967295"},
	} {
		takenContext(t, raw(c.bytes), ctx(c.want))
	}
}

// P18.2: nothing, and numbers that end too soon, are not written in the shortest way, or are too great, in each place.
func TestNumbersOfContexts(t *testing.T) {
	refusedContext(t, nil)
	refusedContext(t, []byte{})
	for _, p := range []string{
		// The number of dots in the vector.
		"0", "128", "255", "128 0", "128 0 0", "128 128 0 0", "129 0 1 1 0", "255 255 255 255 255 255 255 255 255 255 0", "128 128 128 128 128 128 128 128 128 2 0",
		// A replica, and a counter.
		"1", "1 1", "1 1 1", "1 129 0 1 0", "1 1 129 0 0", "1 1 129 128 0 0", "1 1 128", "1 128",
		// The number of dots in the cloud.
		"0 128", "0 128 0", "0 128 128 0", "0 129 0 1 2", "1 1 1 128 0", "1 1 1 129",
		// A replica, and a counter, there.
		"0 1", "0 1 1", "0 1 129 0 2", "0 1 1 130 0", "0 1 1 130 128 0", "0 1 1 130", "0 2 1 2", "0 2 1 2 1", "1 1 1 1", "1 1 1 1 1",
	} {
		refusedContext(t, raw(p))
	}
}

// P18.2: dots that are not allowed, lists that are not in order, and contexts that are valid, but not compact.
func TestContextsThatAreNotAllowed(t *testing.T) {
	for _, p := range []string{
		// Replicas and counters, in the vector and in the cloud.
		"1 0 0 0", "1 0 1 0", "1 1 0 0", "1 65 1 0", "1 128 1 1 0", "1 1 128 128 128 128 16 0", "1 129 128 128 128 16 1 0", "1 1 129 128 128 128 16 0", "2 0 1 1 1 0", "2 1 1 65 1 0", "2 1 1 2 0 0",
		"0 1 0 0", "0 1 0 2", "0 1 1 0", "0 1 65 2", "0 1 1 128 128 128 128 16", "0 1 129 128 128 128 16 2", "0 2 0 2 1 2", "0 2 1 2 65 2", "0 2 1 0 1 2",
		// The vector: a replica twice, or out of order.
		"2 2 1 1 1 0", "2 1 1 1 1 0", "2 1 1 1 2 0", "2 1 2 1 1 0", "3 1 1 3 1 2 1 0", "3 1 1 3 1 3 1 0",
		// The cloud: a dot twice, or out of order.
		"0 2 1 3 1 3", "0 2 1 3 1 2", "0 2 2 2 1 2", "1 1 1 3 1 3 2 3 1 3",
		// What is in the vector, or directly behind it.
		"0 1 1 1", "0 1 64 1", "1 1 1 1 1 1", "1 1 1 1 1 2", "1 1 3 1 1 2", "1 1 1 1 2 1", "2 1 1 2 2 1 2 3", "1 1 1 2 2 1 1 3", "1 1 1 2 1 2 1 3",
		"1 1 255 255 255 255 15 1 1 255 255 255 255 15", "1 1 254 255 255 255 15 1 1 255 255 255 255 15",
	} {
		refusedContext(t, raw(p))
		refusedContext(t, append(raw(p), 0, 0))
	}
	for _, c := range noContexts() {
		refusedContext(t, writtenContext(c))
	}
}

// P18.2
func TestManyContexts(t *testing.T) {
	all := contexts()
	for i, c := range all {
		p := writtenContext(c)
		next := writtenContext(all[(i*7+3)%len(all)])
		for _, behind := range [][]byte{nil, next, next[:i%len(next)]} {
			p := slices.Concat(p, behind)
			if got, n, e := decode.Context(p); !equalContexts(got, c) || n != len(p)-len(behind) || e != api.OK {
				t.Fatalf("Context(%v) = %d and %d dots, %d, %d, want %d and %d", start(p), len(got.Vector), len(got.Cloud), n, e, len(c.Vector), len(c.Cloud))
			}
		}
	}
}

// P18.2: as many dots as there may be in the vector, and in the cloud, and one more.
func TestTheGreatestNumberOfDots(t *testing.T) {
	for _, size := range []int{65535, 65536} {
		takenContext(t, writtenContext(api.Context{Cloud: cloudOf(size)}), api.Context{Cloud: cloudOf(size)})
		odd := cloudOf(size)
		odd[size-1] = at(64, 4294967295)
		takenContext(t, writtenContext(api.Context{Cloud: odd}), api.Context{Cloud: odd})
		odd[size-1] = odd[size-2]
		refusedContext(t, writtenContext(api.Context{Cloud: odd}))
		odd[size-1] = at(65, 4294967295)
		refusedContext(t, writtenContext(api.Context{Cloud: odd}))
	}
	for _, size := range []int{65537, 70000} {
		refusedContext(t, writtenContext(api.Context{Cloud: cloudOf(size)}))
		refusedContext(t, writtenContext(api.Context{Vector: cloudOf(size)}))
	}
	takenContext(t, writtenContext(everything()), everything())
	for _, d := range []api.Dot{at(64, 4294967295), at(65, 1), at(1, 1)} {
		refusedContext(t, writtenContext(api.Context{Vector: append(everything().Vector, d)}))
	}
}

// P18.2: numbers of dots far beyond what follows.
func TestMoreDotsThanFollow(t *testing.T) {
	for _, n := range tooMany() {
		for _, p := range []string{"", "1", "1 1", "1 1 0", "0 0 0 0 0 0"} {
			refusedContext(t, slices.Concat(number(n), raw(p)))
		}
		for _, p := range []string{"", "1", "1 2", "1 2 0", "0 0 0 0 0 0"} {
			refusedContext(t, slices.Concat(raw("0"), number(n), raw(p)))
			refusedContext(t, slices.Concat(raw("1 1 5"), number(n), raw(p)))
		}
	}
}
