package book_test

import (
	"fmt"
	"slices"
	"testing"

	"tarmac/api"
	"tarmac/book"
	"tarmac/ticket"
)

// dice is a row of numbers that look thrown, the same at each run.
type dice uint64

func (d *dice) next(below int) int {
	*d = *d*6364136223846793005 + 1442695040888963407
	x := uint64(*d)
	return int((x ^ x>>29) >> 8 % uint64(below))
}

// byNumbers is the order of Keys.
func byNumbers(a, b api.Key) int {
	for _, x := range [][2]uint64{{uint64(a.Ticket.Carrier), uint64(b.Ticket.Carrier)}, {a.Ticket.Serial, b.Ticket.Serial}, {uint64(a.At), uint64(b.At)}} {
		if x[0] < x[1] {
			return -1
		}
		if x[0] > x[1] {
			return 1
		}
	}
	return 0
}

// held is a coupon of another one's ticket, in a model.
type held struct {
	key api.Key
	api.Held
}

// model is what a book must be, as lists.
type model struct {
	self  uint8
	n     int
	docs  []api.Doc
	owns  [][]api.Own
	helds []held
}

func (m *model) clone() *model {
	c := &model{self: m.self, n: m.n, docs: slices.Clone(m.docs), helds: slices.Clone(m.helds)}
	for _, l := range m.owns {
		c.owns = append(c.owns, slices.Clone(l))
	}
	return c
}

func (m *model) issue(s api.Sale) (api.Doc, api.Errno) {
	if len(m.docs) == api.MaxTickets {
		return api.Doc{}, api.ErrFull
	}
	d, e := ticket.Make(api.Ticket{Carrier: m.self, Serial: uint64(len(m.docs) + 1)}, s, m.n)
	if e != api.OK {
		return api.Doc{}, e
	}
	m.docs = append(m.docs, d)
	var l []api.Own
	for i := range d.Values {
		l = append(l, api.Own{Coupon: api.Coupon{Leg: s.Legs[i], Value: d.Values[i], Status: api.Open}})
	}
	m.owns = append(m.owns, l)
	return d, api.OK
}

// at is where a ticket's document is, below 0 if it is not there.
func (m *model) at(t api.Ticket) int {
	return slices.IndexFunc(m.docs, func(d api.Doc) bool { return d.Ticket == t })
}

func (m *model) setDoc(d api.Doc) api.Errno {
	i := m.at(d.Ticket)
	if i < 0 {
		return api.ErrNone
	}
	m.docs[i] = d
	return api.OK
}

// own is where an Own is, nil if it is not there.
func (m *model) own(k api.Key) *api.Own {
	i := m.at(k.Ticket)
	if i < 0 || int(k.At) >= len(m.owns[i]) {
		return nil
	}
	return &m.owns[i][k.At]
}

func (m *model) setOwn(k api.Key, o api.Own) api.Errno {
	p := m.own(k)
	if p == nil {
		return api.ErrNone
	}
	*p = o
	return api.OK
}

// held is where a Held is, below 0 if it is not there.
func (m *model) held(k api.Key) int {
	return slices.IndexFunc(m.helds, func(h held) bool { return h.key == k })
}

func (m *model) setHeld(k api.Key, h api.Held) api.Errno {
	t := k.Ticket
	if t.Carrier == m.self || int(t.Carrier) >= m.n || t.Serial == 0 || t.Serial > api.MaxSerial || k.At >= api.MaxCoupons {
		return api.ErrArg
	}
	i := m.held(k)
	if i >= 0 {
		m.helds[i].Held = h
		return api.OK
	}
	if len(m.helds) == api.MaxHeld {
		return api.ErrFull
	}
	m.helds = append(m.helds, held{k, h})
	slices.SortFunc(m.helds, func(a, b held) int { return byNumbers(a.key, b.key) })
	return api.OK
}

func (m *model) open(to uint8) int {
	n := 0
	for _, l := range m.owns {
		for _, o := range l {
			if o.Asked && o.Away && o.To == to {
				n++
			}
		}
	}
	for _, h := range m.helds {
		if h.key.Ticket.Carrier == to && h.Wanted {
			n++
		}
		if h.key.Ticket.Carrier == to && h.Billed {
			n++
		}
	}
	return n
}

// text is all of a model.
func (m *model) text() string { return fmt.Sprint(*m) }

// pair is a book, and what it must be.
type pair struct {
	b *book.Book
	m *model
}

// is fails unless the book tells what the model has.
func (p pair) is(t *testing.T) {
	t.Helper()
	b, m := p.b, p.m
	if b.Self() != m.self || b.Carriers() != m.n || len(b.Tickets()) != len(m.docs) || len(b.Keys()) != len(m.helds) {
		t.Fatalf("of %d among %d, %v, %v", b.Self(), b.Carriers(), b.Tickets(), b.Keys())
	}
	for i, x := range b.Tickets() {
		d, e := b.Doc(x)
		if x != m.docs[i].Ticket || e != api.OK || !like(d, m.docs[i]) {
			t.Fatalf("ticket %d is %v, %v, %v; want %v", i, x, d, e, m.docs[i])
		}
		status := b.Status(x)
		if len(status) != len(m.owns[i]) {
			t.Fatalf("Status: %v; want %d", status, len(m.owns[i]))
		}
		for at, want := range m.owns[i] {
			o, e := b.Own(api.Key{Ticket: x, At: uint8(at)})
			if e != api.OK || o != want || status[at] != want.Coupon.Status {
				t.Fatalf("Own(%v, %d): %v, %v, %v; want %v", x, at, o, e, status[at], want)
			}
		}
	}
	for i, k := range b.Keys() {
		h, e := b.Held(k)
		if k != m.helds[i].key || e != api.OK || h != m.helds[i].Held {
			t.Fatalf("coupon %d is %v, %v, %v; want %v", i, k, h, e, m.helds[i])
		}
	}
	for to := range uint8(5) {
		if got, want := b.Open(to), m.open(to); got != want {
			t.Fatalf("Open(%d): %d; want %d", to, got, want)
		}
	}
}

// thrown things are of few values, so that the same ones come again.
func (d *dice) ticket() api.Ticket {
	return api.Ticket{Carrier: uint8(d.next(5)), Serial: []uint64{uint64(d.next(12)), uint64(d.next(40)), api.MaxSerial, api.MaxSerial + 1}[d.next(20)*d.next(20)/120]}
}

func (d *dice) key() api.Key { return api.Key{Ticket: d.ticket(), At: uint8(d.next(5))} }

func (d *dice) bool() bool { return d.next(2) == 0 }

func (d *dice) coupon() api.Coupon {
	return api.Coupon{Leg: api.Leg{Carrier: uint8(d.next(2))}, Value: int64(d.next(2)), Status: api.Status(d.next(9)), Nonce: uint32(d.next(2))}
}

func (d *dice) sale() api.Sale {
	l := refused()
	if i := d.next(3 * len(l)); i < len(l) {
		return l[i]
	}
	return legged(1 + d.next(api.MaxCoupons))
}

// step does one thrown thing to a book and to its model, and fails unless both answer alike.
func (d *dice) step(t *testing.T, p pair) {
	t.Helper()
	k := d.key()
	var got, want api.Errno
	switch d.next(8) {
	case 0:
		if d.next(4) > 0 { // few, so that a book is not full at once
			return
		}
		s := d.sale()
		var x, y api.Doc
		x, got = p.b.Issue(s)
		if y, want = p.m.issue(s); !like(x, y) {
			t.Fatalf("Issue(%v): %v; want %v", s, x, y)
		}
	case 1:
		doc := documents(k.Ticket)[d.next(5)]
		got, want = p.b.SetDoc(doc), p.m.setDoc(doc)
	case 2, 3:
		o := api.Own{Coupon: d.coupon(), Away: d.bool(), To: uint8(d.next(4)), Paid: d.bool(), Asked: d.bool()}
		got, want = p.b.SetOwn(k, o), p.m.setOwn(k, o)
	default:
		h := api.Held{Coupon: d.coupon(), Here: d.bool(), Paid: d.bool(), Wanted: d.bool(), Billed: d.bool()}
		got, want = p.b.SetHeld(k, h), p.m.setHeld(k, h)
	}
	if got != want {
		t.Fatalf("%v; want %v", got, want)
	}
}

// looks fails unless what the book tells of a thrown key is what the model has.
func (d *dice) looks(t *testing.T, p pair) {
	t.Helper()
	k := d.key()
	_, e := p.b.Doc(k.Ticket)
	o, f := p.b.Own(k)
	h, g := p.b.Held(k)
	if (e == api.OK) != (p.m.at(k.Ticket) >= 0) || (e == api.OK) != (len(p.b.Status(k.Ticket)) > 0) || e != api.OK && e != api.ErrNone {
		t.Fatalf("Doc(%v): %v", k.Ticket, e)
	}
	if want := p.m.own(k); want == nil && (f != api.ErrNone || o != api.Own{}) || want != nil && (f != api.OK || o != *want) {
		t.Fatalf("Own(%v): %v, %v; want %v", k, o, f, want)
	}
	if i := p.m.held(k); i < 0 && (g != api.ErrNone || h != api.Held{}) || i >= 0 && (g != api.OK || h != p.m.helds[i].Held) {
		t.Fatalf("Held(%v): %v, %v", k, h, g)
	}
}

// P15.1 to P15.7: long runs of thrown calls on books that are cloned now and then, against models that are lists.
func TestAgainstModel(t *testing.T) {
	runs, full := 40, 0
	if testing.Short() {
		runs = 4
	}
	for run := range runs {
		d := dice(run)
		self := uint8(d.next(4))
		all := make([]pair, 3)
		for i := range all {
			all[i] = pair{newBook(t, self, 4), &model{self: self, n: 4}}
		}
		for step := range 3000 {
			i, j := d.next(3), d.next(3)
			d.step(t, all[i])
			d.looks(t, all[j])
			if d.next(200) == 0 {
				all[j] = pair{all[i].b.Clone(), all[i].m.clone()}
			}
			if step%50 == 0 {
				all[j].is(t)
				same(t, "two of them", all[i].b, all[j].b, all[i].m.text() == all[j].m.text())
			}
		}
		for _, p := range all {
			p.is(t)
			if len(p.m.docs) == api.MaxTickets && len(p.m.helds) == api.MaxHeld {
				full++
			}
		}
	}
	if full == 0 {
		t.Error("no book came to be full")
	}
}
