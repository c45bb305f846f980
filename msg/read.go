package msg

import (
	"math"
	"strconv"

	"tarmac/api"
	"tarmac/number"
)

// read takes what segments say into a packet, or tells why they say nothing.
func read(p *api.Packet, segs []api.Segment) api.Errno {
	switch {
	case len(segs) == 0:
		return api.ErrKind
	case segs[0].Tag != ackTag:
		return readMessage(&p.Message, segs[0], segs[1:])
	case len(segs[0].Elems) > 0:
		return api.ErrKind
	case len(segs) > 1:
		return api.ErrField
	}
	p.Ack = true
	return api.OK
}

// readMessage takes a message's kind, and what the segments behind it say, into a message, or tells why they say nothing.
func readMessage(m *api.Message, kind api.Segment, behind []api.Segment) api.Errno {
	fields, there := readKind(m, kind)
	switch {
	case !there:
		return api.ErrKind
	case len(behind) == 0:
		return api.ErrField
	}
	if e := readKey(m, behind[0]); e != api.OK {
		return e
	}
	if !areRead(m, fields, behind[1:]) {
		return api.ErrField
	}
	return api.OK
}

// readKind takes the kind that a segment tells into a message, and is the fields that the kind has, if there is such a kind.
func readKind(m *api.Message, s api.Segment) ([]field, bool) {
	l, ok := numbersOf(s, kindTag)
	if !ok || len(l) != 1 || !cut(&m.Kind, l[0], 0, math.MaxUint8) {
		return nil, false
	}
	fields, there := kinds()[m.Kind]
	return fields, there
}

// readKey takes the key that a segment tells into a message, or tells why it tells none. What is wrong with the ticket's number is told ahead of what is wrong with the coupon's place.
func readKey(m *api.Message, s api.Segment) (e api.Errno) {
	l, ok := elementsOf(s, keyTag)
	if !ok || len(l) != 2 {
		return api.ErrField
	}
	if m.Key.Ticket, e = number.Parse(l[0]); e != api.OK {
		return e
	}
	if at, ok := value(l[1]); !ok || !takeAt(m, at) {
		return api.ErrField
	}
	return api.OK
}

// areRead tells whether segments are those of the fields, one of each and no more, which are taken into the message.
func areRead(m *api.Message, fields []field, segs []api.Segment) bool {
	if len(segs) != len(fields) {
		return false
	}
	for i, f := range fields {
		if l, ok := numbersOf(segs[i], f.tag); !ok || !f.take(m, l) {
			return false
		}
	}
	return true
}

// numbersOf are those that a segment's elements tell, if it has the tag, and each is one component, a number.
func numbersOf(s api.Segment, tag string) ([]int64, bool) {
	elements, ok := elementsOf(s, tag)
	if !ok {
		return nil, false
	}
	l := make([]int64, len(elements))
	for i, x := range elements {
		if l[i], ok = value(x); !ok {
			return nil, false
		}
	}
	return l, true
}

// elementsOf are a segment's, if it has the tag, and each is one component.
func elementsOf(s api.Segment, tag string) ([]string, bool) {
	if s.Tag != tag {
		return nil, false
	}
	l := make([]string, len(s.Elems))
	for i, x := range s.Elems {
		if len(x) != 1 {
			return nil, false
		}
		l[i] = x[0]
	}
	return l, true
}

// value is the number that a text tells, if it does. One that int64 does not hold is beyond all fields' bounds; one whose text is another (with a + or a 0 ahead, or - ahead of 0) is none.
func value(s string) (int64, bool) {
	n, err := strconv.ParseInt(s, 10, 64)
	if err != nil || text(n) != s {
		return 0, false
	}
	return n, true
}
