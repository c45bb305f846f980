package book

import (
	"cmp"
	"slices"

	"tarmac/api"
	"tarmac/ticket"
)

// Issue issues a ticket.
func (b *Book) Issue(s api.Sale) (api.Doc, api.Errno) {
	switch {
	case b == nil:
		return api.Doc{}, api.ErrNil
	case len(b.docs) >= api.MaxTickets:
		return api.Doc{}, api.ErrFull
	}
	next := api.Ticket{Carrier: b.self, Serial: uint64(len(b.docs)) + 1}
	d, e := ticket.Make(next, s, b.carriers)
	if e != api.OK {
		return api.Doc{}, e
	}
	b.docs[next] = clone(d)
	for i, leg := range d.Sale.Legs {
		c := api.Coupon{Leg: leg, Value: d.Values[i], Status: api.Open}
		b.owns[api.Key{Ticket: next, At: uint8(i)}] = api.Own{Coupon: c}
	}
	return d, api.OK
}

// Doc is a ticket's document.
func (b *Book) Doc(t api.Ticket) (api.Doc, api.Errno) {
	if b == nil {
		return api.Doc{}, api.ErrNil
	}
	d, e := look(b.docs, t)
	return clone(d), e
}

// SetDoc sets it.
func (b *Book) SetDoc(d api.Doc) api.Errno {
	if b == nil {
		return api.ErrNil
	}
	return change(b.docs, d.Ticket, clone(d))
}

// Tickets are all that it issued.
func (b *Book) Tickets() []api.Ticket {
	if b == nil {
		return nil
	}
	return sortedKeys(b.docs, func(x, y api.Ticket) int { return cmp.Compare(x.Serial, y.Serial) })
}

// clone is a document like it that shares no list with it.
func clone(d api.Doc) api.Doc {
	d.Sale.Legs, d.Sale.Taxes, d.Values = slices.Clone(d.Sale.Legs), slices.Clone(d.Sale.Taxes), slices.Clone(d.Values)
	return d
}

// alike tells whether two documents are.
func alike(x, y api.Doc) bool {
	return tickets(x) == tickets(y) && amounts(x) == amounts(y) && slices.Equal(x.Values, y.Values) && ticket.Same(x.Sale, y.Sale)
}

// tickets are those that a document names.
func tickets(d api.Doc) [3]api.Ticket {
	return [...]api.Ticket{d.Ticket, d.From, d.To}
}

// amounts are those that a document tells beside its sale and its coupons' values.
func amounts(d api.Doc) [5]int64 {
	return [...]int64{d.Credit, d.Paid, d.Back, d.Kept, d.Left}
}
