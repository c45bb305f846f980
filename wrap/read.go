package wrap

import (
	"math"

	"tarmac/api"
)

// rule is what must be of an interchange, and the error if it is not.
type rule struct {
	holds func() bool
	e     api.Errno
}

// opened is the interchange of segments with a head and a tail, or why they are none. A rule reads what those behind it ask of, so they are asked in this order.
func opened(segs []api.Segment) (api.Wrap, api.Errno) {
	var w api.Wrap
	var count, ref uint64
	last := len(segs) - 1
	for _, must := range []rule{
		{func() bool { return len(segs) >= ends }, api.ErrHead},
		{func() bool { return isRead(segs[0], headTag, carrier(&w.From), carrier(&w.To), whole(&w.Ref)) }, api.ErrHead},
		{func() bool { return isRead(segs[last], tailTag, whole(&count), whole(&ref)) }, api.ErrHead},
		{func() bool { return count == uint64(len(segs)-ends) }, api.ErrCount},
		{func() bool { return ref == w.Ref }, api.ErrRef},
	} {
		if !must.holds() {
			return api.Wrap{}, must.e
		}
	}
	w.Segs = segs[1:last:last] // without the tail in its spare room
	return w, api.OK
}

// isRead tells whether a segment has the tag, and one element of one component for each reader, which takes it.
func isRead(s api.Segment, tag string, readers ...func(string) bool) bool {
	if s.Tag != tag || len(s.Elems) != len(readers) {
		return false
	}
	for i, takes := range readers {
		if len(s.Elems[i]) != 1 || !takes(s.Elems[i][0]) {
			return false
		}
	}
	return true
}

// carrier is a reader of a carrier.
func carrier(to *uint8) func(string) bool {
	return func(text string) (ok bool) {
		*to, ok = number[uint8](text, api.MaxCarriers-1)
		return ok
	}
}

// whole is a reader of any number.
func whole(to *uint64) func(string) bool {
	return func(text string) (ok bool) {
		*to, ok = number[uint64](text, math.MaxUint64)
		return ok
	}
}

// number is the number that a text tells, if it tells one that is not above most.
func number[T uint8 | uint64](text string, most T) (T, bool) {
	if text == "" || text[0] == '0' && len(text) > 1 {
		return 0, false
	}
	var n T
	for i := range len(text) {
		if text[i] < '0' || text[i] > '9' {
			return 0, false
		}
		d := T(text[i] - '0')
		if d > most || n > (most-d)/10 { // asked ahead of the sum, which might go round
			return 0, false
		}
		n = n*10 + d
	}
	return n, true
}
