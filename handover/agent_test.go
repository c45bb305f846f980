package handover_test

import (
	"fmt"
	"math"
	"testing"

	"tarmac/api"
)

// outside are keys of coupons of others that a book of carrier 1 of 3 may not know.
func outside() []api.Key {
	return []api.Key{
		{},
		keyOf(1, 1, 0), keyOf(1, 1, 1), keyOf(1, 9, 0),
		keyOf(3, 1, 0), keyOf(api.MaxCarriers, 1, 0), keyOf(math.MaxUint8, 1, 0),
		keyOf(0, 0, 0), keyOf(0, api.MaxSerial+1, 0), keyOf(2, math.MaxUint64, 0),
		keyOf(0, 1, api.MaxCoupons), keyOf(2, 1, math.MaxUint8),
	}
}

// within are keys at the edges of what it may know.
func within() []api.Key {
	return []api.Key{keyOf(0, 1, 0), keyOf(2, 1, 0), keyOf(0, api.MaxSerial, 0), keyOf(2, api.MaxSerial, api.MaxCoupons-1), keyOf(0, 1, api.MaxCoupons-1)}
}

// somes are Helds of all bools, with a coupon in which nothing is zero.
func somes() []api.Held {
	c := api.Coupon{Leg: api.Leg{Carrier: 1, Flight: 20, Weight: 3}, Value: 50, Status: api.Open, Nonce: 4}
	var l []api.Held
	for i := range 16 {
		l = append(l, api.Held{Coupon: c, Here: i&1 != 0, Paid: i&2 != 0, Wanted: i&4 != 0, Billed: i&8 != 0})
	}
	return l
}

// P16.1: what is not known yet is Wanted, and has nothing else; its issuer, whoever that is, is told so.
func TestWantNew(t *testing.T) {
	for _, k := range within() {
		b := others(t)
		after := b.Clone()
		setHeld(t, after, k, api.Held{Wanted: true})
		tells(t, "Want", b, want(k), to(k.Ticket.Carrier, message(api.MsgWant, k)))
		is(t, fmt.Sprint("Want of ", k), b, after)
		fails(t, "Want again", b, want(k), api.ErrState)
	}
}

// P16.1: what is known is Wanted too, if it is neither Here nor Wanted, however its coupon stands; all else of it stays.
func TestWantKnown(t *testing.T) {
	k := keyOf(2, 5, 3)
	for _, h := range somes() {
		for _, s := range statuses {
			h.Coupon.Status = s
			b := others(t)
			setHeld(t, b, k, h)
			what := fmt.Sprint("Want of ", h)
			if h.Here || h.Wanted {
				fails(t, what, b, want(k), api.ErrState)
				continue
			}
			after := b.Clone()
			h.Wanted = true
			setHeld(t, after, k, h)
			tells(t, what, b, want(k), to(2, message(api.MsgWant, k)))
			is(t, what, b, after)
		}
	}
}

// P16.1: keys that may not be known are ErrArg, in a full book too.
func TestWantArg(t *testing.T) {
	for _, k := range outside() {
		b := others(t)
		fails(t, fmt.Sprint("Want of ", k), b, want(k), api.ErrArg)
		fill(t, b, 0)
		fails(t, fmt.Sprint("Want of ", k, " in a full book"), b, want(k), api.ErrArg)
	}
}

// P16.1: among each number of carriers, each one's coupons but its own may be asked for.
func TestWantCarriers(t *testing.T) {
	for n := 2; n <= api.MaxCarriers; n++ {
		for self := range n {
			for c := range 256 {
				b := newBook(t, uint8(self), n)
				k := keyOf(uint8(c), 1, 0)
				if c == self || c >= n {
					fails(t, "Want", b, want(k), api.ErrArg)
					continue
				}
				tells(t, "Want", b, want(k), to(uint8(c), message(api.MsgWant, k)))
			}
		}
	}
}

// P16.1: the last one that may be known is, one more is ErrFull; what is known may be asked for in a full book too, and is ErrState ahead of ErrFull.
func TestWantFull(t *testing.T) {
	b := others(t)
	last, more, known := keyOf(0, 500, 0), keyOf(0, 501, 0), keyOf(2, 502, 1)
	setHeld(t, b, known, api.Held{Paid: true})
	fill(t, b, 1)
	tells(t, "the last one", b, want(last), to(0, message(api.MsgWant, last)))
	fails(t, "one more", b, want(more), api.ErrFull)
	fails(t, "the last one again", b, want(last), api.ErrState)
	tells(t, "one that is known", b, want(known), to(2, message(api.MsgWant, known)))
	if h := held(t, b, known); h != (api.Held{Paid: true, Wanted: true}) || len(b.Keys()) != api.MaxHeld {
		t.Errorf("in a full book: %v, %d coupons", h, len(b.Keys()))
	}
	setHeld(t, b, known, api.Held{Here: true})
	fails(t, "one that is Here", b, want(known), api.ErrState)
}

// P16.1: what is Here, and may be handed on, is handed back with its coupon, to its issuer; all else of it stays.
func TestReturn(t *testing.T) {
	for _, k := range within() {
		for _, h := range somes() {
			for _, s := range statuses {
				h.Coupon.Status = s
				b := others(t)
				setHeld(t, b, k, h)
				what := fmt.Sprint("Return of ", h)
				switch {
				case !h.Here:
					fails(t, what, b, giveBack(k), api.ErrControl)
				case s != api.Open:
					fails(t, what, b, giveBack(k), api.ErrState)
				default:
					after := b.Clone()
					gone := h
					gone.Here = false
					setHeld(t, after, k, gone)
					tells(t, what, b, giveBack(k), to(k.Ticket.Carrier, coupled(api.MsgReturn, k, h.Coupon)))
					is(t, what, b, after)
					fails(t, what+" again", b, giveBack(k), api.ErrControl)
				}
			}
		}
	}
}

// P16.1: what is not known is not handed back, and what was sold by this carrier neither.
func TestReturnNone(t *testing.T) {
	b := others(t)
	for _, k := range append(outside(), within()...) {
		fails(t, fmt.Sprint("Return of ", k), b, giveBack(k), api.ErrNone)
	}
	k := keyOf(0, 7, 1)
	setHeld(t, b, k, api.Held{Coupon: api.Coupon{Status: api.Open}, Here: true})
	for _, near := range []api.Key{keyOf(2, 7, 1), keyOf(0, 8, 1), keyOf(0, 6, 1), keyOf(0, 7, 0), keyOf(0, 7, 2)} {
		fails(t, "Return of a neighbour", b, giveBack(near), api.ErrNone)
	}
	if h := held(t, b, k); !h.Here {
		t.Error("it is not here any more")
	}
}

// owns are Owns of all bools, Away to each of three carriers, with a coupon in which nothing is zero.
func owns() []api.Own {
	c := api.Coupon{Leg: api.Leg{Carrier: 2, Flight: 20, Weight: 3}, Value: 50, Status: api.Open, Nonce: 4}
	var l []api.Own
	for i := range 8 {
		for c2 := range uint8(3) {
			l = append(l, api.Own{Coupon: c, Away: i&1 != 0, Paid: i&2 != 0, Asked: i&4 != 0, To: c2})
		}
	}
	return l
}

// P16.1: what is Away, neither Paid nor Asked, is asked back of the carrier that it is Away to, however it stands; all else of it stays.
func TestRecall(t *testing.T) {
	k := keyOf(1, 2, 2)
	for _, o := range owns() {
		for _, s := range statuses {
			o.Coupon.Status = s
			b := others(t)
			setOwn(t, b, k, o)
			what := fmt.Sprint("Recall of ", o)
			if !o.Away || o.Paid || o.Asked {
				fails(t, what, b, recall(k), api.ErrState)
				continue
			}
			after := b.Clone()
			asked := o
			asked.Asked = true
			setOwn(t, after, k, asked)
			tells(t, what, b, recall(k), to(o.To, message(api.MsgRecall, k)))
			is(t, what, b, after)
			fails(t, what+" again", b, recall(k), api.ErrState)
		}
	}
}

// P16.1: a coupon that this carrier did not sell is not asked back, though it is known.
func TestRecallNone(t *testing.T) {
	b := others(t)
	for _, k := range append(b.Keys(), within()...) {
		fails(t, fmt.Sprint("Recall of ", k), b, recall(k), api.ErrNone)
	}
	for _, k := range []api.Key{{}, keyOf(1, 0, 0), keyOf(1, 3, 0), keyOf(1, 1, 4), keyOf(1, 1, math.MaxUint8), keyOf(1, math.MaxUint64, 0), keyOf(math.MaxUint8, 1, 0)} {
		fails(t, fmt.Sprint("Recall of ", k), b, recall(k), api.ErrNone)
	}
	fails(t, "Recall of one that is there", b, recall(keyOf(1, 1, 0)), api.ErrState)
}
