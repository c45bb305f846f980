package msg

import (
	"strconv"

	"tarmac/api"
	"tarmac/number"
)

// told is the segments that tell what a packet says.
func told(p api.Packet) ([]api.Segment, api.Errno) {
	switch {
	case !p.Ack:
		return toldMessage(p.Message)
	case p.Message != api.Message{}:
		return nil, api.ErrField
	}
	return []api.Segment{segment(ackTag)}, api.OK
}

// toldMessage is the segments of a message.
func toldMessage(m api.Message) ([]api.Segment, api.Errno) {
	fields, there := kinds()[m.Kind]
	if !there {
		return nil, api.ErrKind
	}
	ticket, e := number.Text(m.Key.Ticket)
	switch {
	case e != api.OK:
		return nil, e
	case !mayBeTold(m, fields):
		return nil, api.ErrField
	}
	segs := []api.Segment{segment(kindTag, text(int64(m.Kind))), segment(keyTag, ticket, text(int64(m.Key.At)))}
	for _, f := range fields {
		segs = append(segs, segment(f.tag, texts(f.tell(m))...))
	}
	return segs, api.OK
}

// mayBeTold tells whether a message has nothing beside its key and fields, and these are as they must be: put together of them alone, it is the same again.
func mayBeTold(m api.Message, fields []field) bool {
	again := api.Message{Kind: m.Kind, Key: api.Key{Ticket: m.Key.Ticket}}
	if !takeAt(&again, int64(m.Key.At)) {
		return false
	}
	for _, f := range fields {
		if !f.take(&again, f.tell(m)) {
			return false
		}
	}
	return again == m
}

// segment is one of elements of one component each, in lists of their own.
func segment(tag string, elements ...string) api.Segment {
	s := api.Segment{Tag: tag}
	for _, x := range elements {
		s.Elems = append(s.Elems, []string{x})
	}
	return s
}

// texts are those of numbers.
func texts(numbers []int64) []string {
	l := make([]string, len(numbers))
	for i, n := range numbers {
		l[i] = text(n)
	}
	return l
}

// text is a number's, with a - ahead of one below 0.
func text(n int64) string {
	return strconv.FormatInt(n, 10)
}
