package handover_test

import (
	"fmt"
	"math"
	"slices"
	"testing"

	"tarmac/api"
	"tarmac/book"
)

// dice is a row of numbers that look thrown, the same at each run.
type dice uint64

func (d *dice) next(below int) int {
	*d = *d*6364136223846793005 + 1442695040888963407
	x := uint64(*d)
	return int((x ^ x>>29) >> 8 % uint64(below))
}

func (d *dice) bool() bool { return d.next(2) == 0 }

// pick is one of some.
func pick[E any](d *dice, l ...E) E { return l[d.next(len(l))] }

// model is what a carrier knows of coupons, as lists that are gone through.
type model struct {
	self  uint8
	n     int
	owns  []ownAt
	helds []heldAt
}

type ownAt struct {
	key api.Key
	api.Own
}

type heldAt struct {
	key api.Key
	api.Held
}

// modelOf is a model of what a book tells.
func modelOf(b *book.Book) *model {
	m := &model{self: b.Self(), n: b.Carriers()}
	for _, x := range b.Tickets() {
		for at := range b.Status(x) {
			k := api.Key{Ticket: x, At: uint8(at)}
			o, _ := b.Own(k)
			m.owns = append(m.owns, ownAt{k, o})
		}
	}
	for _, k := range b.Keys() {
		h, _ := b.Held(k)
		m.helds = append(m.helds, heldAt{k, h})
	}
	return m
}

// into sets what a book must have come to.
func (m *model) into(b *book.Book) *book.Book {
	for _, o := range m.owns {
		b.SetOwn(o.key, o.Own)
	}
	for _, h := range m.helds {
		b.SetHeld(h.key, h.Held)
	}
	return b
}

func (m *model) own(k api.Key) *api.Own {
	if i := slices.IndexFunc(m.owns, func(o ownAt) bool { return o.key == k }); i >= 0 {
		return &m.owns[i].Own
	}
	return nil
}

func (m *model) held(k api.Key) *api.Held {
	if i := slices.IndexFunc(m.helds, func(h heldAt) bool { return h.key == k }); i >= 0 {
		return &m.helds[i].Held
	}
	return nil
}

// mayKnow tells whether a coupon may be one of another carrier's.
func (m *model) mayKnow(k api.Key) bool {
	c, s := k.Ticket.Carrier, k.Ticket.Serial
	return c != m.self && int(c) < m.n && s > 0 && s <= api.MaxSerial && k.At < api.MaxCoupons
}

func (m *model) add(k api.Key, h api.Held) { m.helds = append(m.helds, heldAt{k, h}) }

func (m *model) want(k api.Key) ([]api.Outgo, api.Errno) {
	h := m.held(k)
	if !m.mayKnow(k) {
		return nil, api.ErrArg
	}
	if h != nil && (h.Here || h.Wanted) {
		return nil, api.ErrState
	}
	if h == nil && len(m.helds) == api.MaxHeld {
		return nil, api.ErrFull
	}
	if h == nil {
		m.add(k, api.Held{Wanted: true})
	} else {
		h.Wanted = true
	}
	return []api.Outgo{{To: k.Ticket.Carrier, Message: api.Message{Kind: api.MsgWant, Key: k}}}, api.OK
}

func (m *model) giveBack(k api.Key) ([]api.Outgo, api.Errno) {
	h := m.held(k)
	if h == nil {
		return nil, api.ErrNone
	}
	if !h.Here {
		return nil, api.ErrControl
	}
	if h.Coupon.Status != api.Open {
		return nil, api.ErrState
	}
	h.Here = false
	return []api.Outgo{{To: k.Ticket.Carrier, Message: api.Message{Kind: api.MsgReturn, Key: k, Coupon: h.Coupon}}}, api.OK
}

func (m *model) recall(k api.Key) ([]api.Outgo, api.Errno) {
	o := m.own(k)
	if o == nil {
		return nil, api.ErrNone
	}
	if !o.Away || o.Paid || o.Asked {
		return nil, api.ErrState
	}
	o.Asked = true
	return []api.Outgo{{To: o.To, Message: api.Message{Kind: api.MsgRecall, Key: k}}}, api.OK
}

func (m *model) hear(from uint8, x api.Message) ([]api.Outgo, api.Errno) {
	if from == m.self || int(from) >= m.n || x.Kind < api.MsgWant || x.Kind > api.MsgReturn {
		return nil, api.ErrArg
	}
	o, h := m.own(x.Key), m.held(x.Key)
	issuer := x.Key.Ticket.Carrier == from
	answer := func(a api.Message) ([]api.Outgo, api.Errno) {
		a.Key = x.Key
		return []api.Outgo{{To: from, Message: a}}, api.OK
	}
	switch x.Kind {
	case api.MsgWant:
		code := api.OK
		if o != nil && o.Coupon.Nonce == 1<<32-1 {
			code = api.ErrFull
		}
		if o != nil && o.Coupon.Status != api.Open {
			code = api.ErrState
		}
		if o != nil && o.Coupon.Leg.Carrier != from {
			code = api.ErrArg
		}
		if o != nil && o.Away {
			code = api.ErrControl
		}
		if o == nil {
			code = api.ErrNone
		}
		if code != api.OK {
			return answer(api.Message{Kind: api.MsgRefuse, Code: code})
		}
		o.Coupon.Nonce, o.Away, o.To = o.Coupon.Nonce+1, true, from
		return answer(api.Message{Kind: api.MsgGrant, Coupon: o.Coupon})
	case api.MsgGrant:
		if !issuer {
			return nil, api.OK
		}
		if h != nil && !h.Here && h.Coupon.Nonce < x.Coupon.Nonce {
			*h = api.Held{Coupon: x.Coupon, Here: true}
		}
		if h == nil && len(m.helds) == api.MaxHeld {
			return nil, api.ErrFull
		}
		if h == nil && m.mayKnow(x.Key) {
			m.add(x.Key, api.Held{Coupon: x.Coupon, Here: true})
		}
	case api.MsgRefuse:
		if issuer && h != nil {
			h.Wanted = false
		}
		if o != nil && o.Away && o.To == from {
			o.Asked = false
		}
	case api.MsgRecall:
		if !issuer || h == nil || !h.Here {
			return nil, api.OK
		}
		if h.Coupon.Status != api.Open {
			return answer(api.Message{Kind: api.MsgRefuse, Code: api.ErrState})
		}
		h.Here = false
		return answer(api.Message{Kind: api.MsgReturn, Coupon: h.Coupon})
	case api.MsgReturn:
		if o != nil && o.Away && o.To == from && o.Coupon.Nonce == x.Coupon.Nonce {
			o.Away, o.Asked = false, false
		}
	}
	return nil, api.OK
}

// agrees fails unless a call answers what a model's does, and the book comes to what the model does.
func agrees(t *testing.T, what string, b *book.Book, c call, say func(m *model) ([]api.Outgo, api.Errno)) {
	t.Helper()
	m, was := modelOf(b), b.Clone()
	l, e := c(b)
	told, code := say(m)
	after := m.into(was)
	if e != code || !slices.Equal(l, told) || !b.Same(after) {
		t.Fatalf("%s: %v, %v; want %v, %v; the book is\n%s\nit must be\n%s", what, l, e, told, code, whole(b), whole(after))
	}
}

// nonces are those of which one is held against another one.
func (d *dice) nonce() uint32 { return pick[uint32](d, 0, 1, 2, 3, math.MaxUint32-1, math.MaxUint32) }

func (d *dice) coupon() api.Coupon {
	c := api.Coupon{Leg: api.Leg{Carrier: uint8(d.next(4)), Flight: uint16(d.next(3)), Weight: 1}, Value: int64(d.next(9)), Status: api.Open, Nonce: d.nonce()}
	if d.next(4) == 0 {
		c.Status = pick(d, statuses...)
	}
	return c
}

// key is mostly one that there may be.
func (d *dice) key() api.Key {
	k := keyOf(uint8(d.next(4)), uint64(1+d.next(4)), uint8(d.next(4)))
	switch d.next(40) {
	case 0:
		k.Ticket.Carrier = pick[uint8](d, 4, 8, 255)
	case 1:
		k.Ticket.Serial = pick[uint64](d, 0, api.MaxSerial, api.MaxSerial+1, math.MaxUint64)
	case 2:
		k.At = pick[uint8](d, 4, 255)
	case 3:
		k.Ticket.Serial = uint64(1 + d.next(40))
	}
	return k
}

// message is mostly of one of the five kinds.
func (d *dice) message() api.Message {
	m := api.Message{Kind: pick(d, kinds...), Key: d.key(), Coupon: d.coupon()}
	if d.next(20) == 0 {
		m.Kind = uint8(d.next(256))
	}
	if d.bool() {
		m.Amount, m.Code = int64(d.next(5)), api.Errno(d.next(9))
	}
	return m
}

// step does one thing with a book, and fails unless it is done as a model does it.
func (d *dice) step(t *testing.T, b *book.Book) {
	t.Helper()
	k := d.key()
	switch d.next(8) {
	case 0:
		agrees(t, fmt.Sprint("Want ", k), b, want(k), func(m *model) ([]api.Outgo, api.Errno) { return m.want(k) })
	case 1:
		agrees(t, fmt.Sprint("Return ", k), b, giveBack(k), func(m *model) ([]api.Outgo, api.Errno) { return m.giveBack(k) })
	case 2:
		agrees(t, fmt.Sprint("Recall ", k), b, recall(k), func(m *model) ([]api.Outgo, api.Errno) { return m.recall(k) })
	case 3:
		b.SetOwn(k, api.Own{Coupon: d.coupon(), Away: d.bool(), To: uint8(d.next(4)), Paid: d.next(4) == 0, Asked: d.bool()})
		b.SetHeld(k, api.Held{Coupon: d.coupon(), Here: d.bool(), Paid: d.bool(), Wanted: d.bool(), Billed: d.bool()})
	default:
		from, x := uint8(d.next(4)), d.message()
		if d.bool() {
			from = x.Key.Ticket.Carrier
		}
		agrees(t, fmt.Sprint("Hear from ", from, " ", x), b, hear(from, x), func(m *model) ([]api.Outgo, api.Errno) { return m.hear(from, x) })
	}
}

// P16.1, P16.2: long runs of thrown calls on books that are set to anything, against a model.
func TestAgainstModel(t *testing.T) {
	runs, full := 24, 0
	if testing.Short() {
		runs = 4
	}
	for run := range runs {
		d := dice(run)
		b := newBook(t, uint8(run%4), 4)
		for range 4 {
			issued(t, b, uint8(d.next(4)), uint8(d.next(4)), uint8(d.next(4)), uint8(d.next(4)))
		}
		if run%3 == 0 {
			fill(t, b, d.next(30))
		}
		for range 3000 {
			d.step(t, b)
		}
		if len(b.Keys()) == api.MaxHeld {
			full++
		}
	}
	if full == 0 {
		t.Error("no book came to be full")
	}
}

// messages are all that may be told of a coupon by these Nonces, and by a code.
func messages(k api.Key, all ...uint32) []api.Message {
	var l []api.Message
	for kind := range uint8(10) {
		for _, nonce := range all {
			l = append(l, api.Message{Kind: kind, Key: k, Coupon: granted(nonce), Code: api.Errno(nonce % 7)})
		}
	}
	return l
}

// P16.1, P16.2: all states of a coupon that was sold, and all that may be asked and told of it, against the model.
func TestAllOfOwn(t *testing.T) {
	k := keyOf(1, 1, 1)
	for _, o := range owns() {
		for _, s := range []api.Status{api.Open, api.Checked, api.Flown, 0} {
			for _, nonce := range []uint32{0, 7, math.MaxUint32 - 1, math.MaxUint32} {
				for leg := range uint8(3) {
					o.Coupon.Status, o.Coupon.Nonce, o.Coupon.Leg.Carrier = s, nonce, leg
					b := newBook(t, 1, 3)
					issued(t, b, 0, 2)
					all(t, k, func() *book.Book { setOwn(t, b, k, o); return b.Clone() }, nonce-1, nonce, nonce+1)
				}
			}
		}
	}
}

// P16.1, P16.2: all states of another one's coupon, and all that may be asked and told of it, against the model.
func TestAllOfHeld(t *testing.T) {
	k := keyOf(2, 1, 1)
	for _, h := range somes() {
		for _, s := range []api.Status{api.Open, api.Checked, api.Flown, 0} {
			for _, nonce := range []uint32{0, 7, math.MaxUint32 - 1, math.MaxUint32} {
				h.Coupon.Status, h.Coupon.Nonce = s, nonce
				b := newBook(t, 1, 3)
				all(t, k, func() *book.Book { setHeld(t, b, k, h); return b.Clone() }, nonce-1, nonce, nonce+1)
			}
		}
	}
}

// all does all that may be asked and told of a coupon, each with a book of its own.
func all(t *testing.T, k api.Key, fresh func() *book.Book, nonces ...uint32) {
	t.Helper()
	agrees(t, "Want", fresh(), want(k), func(m *model) ([]api.Outgo, api.Errno) { return m.want(k) })
	agrees(t, "Return", fresh(), giveBack(k), func(m *model) ([]api.Outgo, api.Errno) { return m.giveBack(k) })
	agrees(t, "Recall", fresh(), recall(k), func(m *model) ([]api.Outgo, api.Errno) { return m.recall(k) })
	for from := range uint8(4) {
		for _, x := range messages(k, nonces...) {
			agrees(t, fmt.Sprint("Hear from ", from, " ", x), fresh(), hear(from, x), func(m *model) ([]api.Outgo, api.Errno) { return m.hear(from, x) })
		}
	}
}
