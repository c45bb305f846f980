package book

import (
	"cmp"

	"tarmac/api"
)

// Own is a coupon that it issued.
func (b *Book) Own(k api.Key) (api.Own, api.Errno) {
	if b == nil {
		return api.Own{}, api.ErrNil
	}
	return look(b.owns, k)
}

// SetOwn sets it.
func (b *Book) SetOwn(k api.Key, o api.Own) api.Errno {
	if b == nil {
		return api.ErrNil
	}
	return change(b.owns, k, o)
}

// Status is how a ticket's coupons stand. How many it has is told by its Owns: its document may be set to one of more or fewer legs.
func (b *Book) Status(t api.Ticket) []api.Status {
	if b == nil {
		return nil
	}
	var l []api.Status
	for at := range uint8(api.MaxCoupons) {
		if o, ok := b.owns[api.Key{Ticket: t, At: at}]; ok {
			l = append(l, o.Coupon.Status)
		}
	}
	return l
}

// Held is another one's coupon.
func (b *Book) Held(k api.Key) (api.Held, api.Errno) {
	if b == nil {
		return api.Held{}, api.ErrNil
	}
	return look(b.helds, k)
}

// SetHeld sets it.
func (b *Book) SetHeld(k api.Key, h api.Held) api.Errno {
	switch {
	case b == nil:
		return api.ErrNil
	case !b.mayHold(k):
		return api.ErrArg
	case change(b.helds, k, h) == api.OK:
		return api.OK
	case len(b.helds) >= api.MaxHeld:
		return api.ErrFull
	}
	b.helds[k] = h
	return api.OK
}

// mayHold tells whether a coupon may be one of another carrier's ticket.
func (b *Book) mayHold(k api.Key) bool {
	t := k.Ticket
	return t.Carrier != b.self && int(t.Carrier) < b.carriers && t.Serial >= 1 && t.Serial <= api.MaxSerial && k.At < api.MaxCoupons
}

// Keys are the coupons of others that it knows.
func (b *Book) Keys() []api.Key {
	if b == nil {
		return nil
	}
	return sortedKeys(b.helds, func(x, y api.Key) int {
		return cmp.Or(
			cmp.Compare(x.Ticket.Carrier, y.Ticket.Carrier),
			cmp.Compare(x.Ticket.Serial, y.Ticket.Serial),
			cmp.Compare(x.At, y.At),
		)
	})
}
