package handover

import (
	"math"

	"tarmac/api"
	"tarmac/book"
	"tarmac/coupon"
)

// hearing is what is done when a message of one kind comes.
type hearing func(m api.Message) ([]api.Outgo, api.Errno)

// hearings are those of all kinds, of a book to whose carrier the message comes from another one.
func hearings(b *book.Book, from uint8) map[uint8]hearing {
	return map[uint8]hearing{
		api.MsgWant: func(m api.Message) ([]api.Outgo, api.Errno) {
			return tell(from, handOn(b, from, m.Key)), api.OK
		},
		api.MsgGrant: func(m api.Message) ([]api.Outgo, api.Errno) {
			return tell(from), take(b, from, m)
		},
		api.MsgRefuse: func(m api.Message) ([]api.Outgo, api.Errno) {
			forget(b, from, m.Key)
			return tell(from), api.OK
		},
		api.MsgRecall: func(m api.Message) ([]api.Outgo, api.Errno) {
			return askedBack(b, from, m.Key), api.OK
		},
		api.MsgReturn: func(m api.Message) ([]api.Outgo, api.Errno) {
			takeBack(b, from, m)
			return tell(from), api.OK
		},
	}
}

// Hear is what is done when a message comes.
func Hear(b *book.Book, from uint8, m api.Message) ([]api.Outgo, api.Errno) {
	if b == nil {
		return nil, api.ErrNil
	}
	hear, ok := hearings(b, from)[m.Kind]
	if !ok || from == b.Self() || int(from) >= b.Carriers() {
		return nil, api.ErrArg
	}
	return hear(m)
}

// Mine tells whether a kind is one of these.
func Mine(kind uint8) bool {
	_, ok := hearings(nil, 0)[kind]
	return ok
}

// issued tells whether a carrier is a coupon's issuer.
func issued(carrier uint8, k api.Key) bool { return k.Ticket.Carrier == carrier }

// refusal is a Refuse with an error.
func refusal(k api.Key, e api.Errno) api.Message {
	return api.Message{Kind: api.MsgRefuse, Key: k, Code: e}
}

// handOn hands on a coupon, if it may be; it is what the carrier that wants it is told.
func handOn(b *book.Book, to uint8, k api.Key) api.Message {
	o, e := b.Own(k)
	if e == api.OK {
		e = mayHandOn(o, to)
	}
	if e != api.OK {
		return refusal(k, e)
	}
	o.Coupon.Nonce++
	o.Away, o.To = true, to
	b.SetOwn(k, o)
	return api.Message{Kind: api.MsgGrant, Key: k, Coupon: o.Coupon}
}

// mayHandOn is why a coupon may not be handed on to a carrier, OK if it may.
func mayHandOn(o api.Own, to uint8) api.Errno {
	switch {
	case o.Away:
		return api.ErrControl
	case o.Coupon.Leg.Carrier != to:
		return api.ErrArg
	case !coupon.Free(o.Coupon.Status):
		return api.ErrState
	case o.Coupon.Nonce == math.MaxUint32:
		return api.ErrFull
	}
	return api.OK
}

// take takes a coupon that was handed on. One that came already, or is older than one that did, is not taken again.
func take(b *book.Book, from uint8, m api.Message) api.Errno {
	h, e := b.Held(m.Key)
	known := e == api.OK
	switch {
	case !issued(from, m.Key) || known && (h.Here || h.Coupon.Nonce >= m.Coupon.Nonce):
		return api.OK
	case !known && len(b.Keys()) >= api.MaxHeld:
		return api.ErrFull
	}
	b.SetHeld(m.Key, api.Held{Coupon: m.Coupon, Here: true}) // of a key that may not be it sets nothing
	return api.OK
}

// forget takes note that what was asked for, or asked back, was refused.
func forget(b *book.Book, from uint8, k api.Key) {
	if h, e := b.Held(k); e == api.OK && issued(from, k) {
		h.Wanted = false
		b.SetHeld(k, h)
	}
	if o, e := b.Own(k); e == api.OK && o.Away && o.To == from {
		o.Asked = false
		b.SetOwn(k, o)
	}
}

// askedBack hands a coupon back to its issuer, who asks for it, if it is here and may be handed on.
func askedBack(b *book.Book, from uint8, k api.Key) []api.Outgo {
	h, e := b.Held(k)
	switch {
	case e != api.OK || !issued(from, k) || !h.Here:
		return tell(from) // who has it no more has told a Return already
	case !coupon.Free(h.Coupon.Status):
		return tell(from, refusal(k, api.ErrState))
	}
	return handBack(b, k, h)
}

// takeBack takes a coupon that is handed back, if it is the one that was handed on last.
func takeBack(b *book.Book, from uint8, m api.Message) {
	o, e := b.Own(m.Key)
	if e != api.OK || !o.Away || o.To != from || o.Coupon.Nonce != m.Coupon.Nonce {
		return
	}
	o.Away, o.Asked = false, false
	b.SetOwn(m.Key, o)
}
