package alloc

import "redpencil/api"

// MaxTake is the maximum number of dots that are taken at once.
const MaxTake = 1 << 16

// Next takes the next dot, Take some dots, or they return an error.
func (a *Alloc) Next() (api.Dot, api.Errno) {
	if a.none() {
		return api.Dot{}, api.ErrNil
	}
	if a.Left() == 0 {
		return api.Dot{}, api.ErrExhausted
	}
	return a.give(), api.OK
}
func (a *Alloc) Take(n int) ([]api.Dot, api.Errno) {
	if a.none() {
		return nil, api.ErrNil
	}
	if n < 0 || n > MaxTake {
		return nil, api.ErrArg
	}
	// Whether there are enough is known before the first one is given, so that an error changes nothing.
	if n > a.Left() {
		return nil, api.ErrExhausted
	}
	dots := make([]api.Dot, n)
	for i := range dots {
		dots[i] = a.give()
	}
	return dots, api.OK
}

// give takes the first dot that is left; there must be one.
func (a *Alloc) give() api.Dot {
	a.last++
	return api.Dot{Replica: a.replica, Counter: a.last}
}

// Extend gives a later end, Pass goes on behind a counter, or they return an error.
func (a *Alloc) Extend(end int) api.Errno {
	if a.none() {
		return api.ErrNil
	}
	if end < a.end || !canEnd(a.replica, end) {
		return api.ErrArg
	}
	a.end = end
	return api.OK
}
func (a *Alloc) Pass(counter int) api.Errno {
	if a.none() {
		return api.ErrNil
	}
	if counter < 0 {
		return api.ErrArg
	}
	if counter > a.end {
		return api.ErrRange
	}
	a.last = max(a.last, counter)
	return api.OK
}
