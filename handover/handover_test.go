package handover_test

import (
	"fmt"
	"math"
	"slices"
	"strings"
	"testing"

	"tarmac/api"
	"tarmac/book"
	"tarmac/handover"
)

// kinds are those of this layer's messages.
var kinds = []uint8{api.MsgWant, api.MsgGrant, api.MsgRefuse, api.MsgRecall, api.MsgReturn}

// bools are both.
var bools = []bool{false, true}

// statuses are the seven, and others that there are not.
var statuses = []api.Status{api.Open, api.Checked, api.Boarded, api.Flown, api.Void, api.Refunded, api.Exchanged, 0, api.Exchanged + 1, math.MaxUint8}

// keyOf is the key of a coupon.
func keyOf(carrier uint8, serial uint64, at uint8) api.Key {
	return api.Key{Ticket: api.Ticket{Carrier: carrier, Serial: serial}, At: at}
}

// newBook is one that there must be.
func newBook(t *testing.T, self uint8, n int) *book.Book {
	t.Helper()
	b, e := book.New(self, n)
	if e != api.OK {
		t.Fatalf("New(%d, %d): %v", self, n, e)
	}
	return b
}

// issued is a ticket that must be issued: of so many carriers' legs.
func issued(t *testing.T, b *book.Book, carriers ...uint8) api.Ticket {
	t.Helper()
	s := api.Sale{Name: "DOE/J", Fare: 101, Penalty: 20}
	for i, c := range carriers {
		s.Legs = append(s.Legs, api.Leg{Carrier: c, Flight: uint16(10 + i), Weight: 1})
	}
	d, e := b.Issue(s)
	if e != api.OK {
		t.Fatalf("Issue(%v): %v", s, e)
	}
	return d.Ticket
}

// own is a coupon that there must be.
func own(t *testing.T, b *book.Book, k api.Key) api.Own {
	t.Helper()
	o, e := b.Own(k)
	if e != api.OK {
		t.Fatalf("Own(%v): %v", k, e)
	}
	return o
}

// held is another one's coupon that there must be.
func held(t *testing.T, b *book.Book, k api.Key) api.Held {
	t.Helper()
	h, e := b.Held(k)
	if e != api.OK {
		t.Fatalf("Held(%v): %v", k, e)
	}
	return h
}

// setOwn sets what there must be.
func setOwn(t *testing.T, b *book.Book, k api.Key, o api.Own) {
	t.Helper()
	if e := b.SetOwn(k, o); e != api.OK {
		t.Fatalf("SetOwn(%v): %v", k, e)
	}
}

// setHeld sets what there may be.
func setHeld(t *testing.T, b *book.Book, k api.Key, h api.Held) {
	t.Helper()
	if e := b.SetHeld(k, h); e != api.OK {
		t.Fatalf("SetHeld(%v): %v", k, e)
	}
}

// whole is all that a book tells.
func whole(b *book.Book) string {
	var s strings.Builder
	fmt.Fprintln(&s, b == nil, b.Self(), b.Carriers(), b.Tickets(), b.Keys())
	for _, x := range b.Tickets() {
		d, e := b.Doc(x)
		fmt.Fprintln(&s, d, e, b.Status(x))
		for at := range uint8(api.MaxCoupons + 1) {
			o, e := b.Own(api.Key{Ticket: x, At: at})
			fmt.Fprintln(&s, o, e)
		}
	}
	for _, k := range b.Keys() {
		h, e := b.Held(k)
		fmt.Fprintln(&s, h, e)
	}
	for to := range uint8(api.MaxCarriers + 1) {
		fmt.Fprint(&s, b.Open(to), " ")
	}
	return s.String()
}

// is fails unless a book is, and tells, what another one is and tells.
func is(t *testing.T, what string, b, want *book.Book) {
	t.Helper()
	if got, all := whole(b), whole(want); got != all || !b.Same(want) || !want.Same(b) {
		t.Errorf("%s: the book is\n%s\nit must be\n%s", what, got, all)
	}
}

// call is one of the layer's, of a book.
type call func(b *book.Book) ([]api.Outgo, api.Errno)

func want(k api.Key) call {
	return func(b *book.Book) ([]api.Outgo, api.Errno) { return handover.Want(b, k) }
}

func giveBack(k api.Key) call {
	return func(b *book.Book) ([]api.Outgo, api.Errno) { return handover.Return(b, k) }
}

func recall(k api.Key) call {
	return func(b *book.Book) ([]api.Outgo, api.Errno) { return handover.Recall(b, k) }
}

func hear(from uint8, m api.Message) call {
	return func(b *book.Book) ([]api.Outgo, api.Errno) { return handover.Hear(b, from, m) }
}

// tells fails unless a call answers OK, and tells just this.
func tells(t *testing.T, what string, b *book.Book, c call, told ...api.Outgo) {
	t.Helper()
	if l, e := c(b); e != api.OK || !slices.Equal(l, told) {
		t.Errorf("%s: %v, %v; want %v, OK", what, l, e, told)
	}
}

// quiet fails unless a call answers OK, tells nothing and changes nothing.
func quiet(t *testing.T, what string, b *book.Book, c call) {
	t.Helper()
	was := b.Clone()
	tells(t, what, b, c)
	is(t, what, b, was)
}

// fails fails unless a call answers this error, tells nothing and changes nothing.
func fails(t *testing.T, what string, b *book.Book, c call, want api.Errno) {
	t.Helper()
	was := b.Clone()
	if l, e := c(b); e != want || len(l) != 0 {
		t.Errorf("%s: %v, %v; want nothing, %v", what, l, e, want)
	}
	is(t, what, b, was)
}

// refuses fails unless a message that comes from a carrier is refused with an error, and changes nothing.
func refuses(t *testing.T, what string, b *book.Book, from uint8, m api.Message, code api.Errno) {
	t.Helper()
	was := b.Clone()
	tells(t, what, b, hear(from, m), refuse(from, m.Key, code))
	is(t, what, b, was)
}

// to is a message for a carrier.
func to(c uint8, m api.Message) api.Outgo { return api.Outgo{To: c, Message: m} }

func refuse(c uint8, k api.Key, code api.Errno) api.Outgo {
	return to(c, api.Message{Kind: api.MsgRefuse, Key: k, Code: code})
}

func message(kind uint8, k api.Key) api.Message { return api.Message{Kind: kind, Key: k} }

func coupled(kind uint8, k api.Key, c api.Coupon) api.Message {
	return api.Message{Kind: kind, Key: k, Coupon: c}
}

// fill lets a book know as many coupons of others as may be, of tickets with serials from 1000 on, but for so many.
func fill(t *testing.T, b *book.Book, but int) {
	t.Helper()
	c := (b.Self() + 1) % uint8(b.Carriers())
	for i := 0; len(b.Keys()) < api.MaxHeld-but; i++ {
		setHeld(t, b, keyOf(c, 1000+uint64(i), uint8(i%api.MaxCoupons)), api.Held{})
	}
}

// others are what there may be of a book beside a coupon: carrier 1 of 3, with tickets of its own and coupons of others.
func others(t *testing.T) *book.Book {
	t.Helper()
	b := newBook(t, 1, 3)
	for range 2 {
		x := issued(t, b, 1, 0, 2, 0)
		k := api.Key{Ticket: x, At: 3}
		o := own(t, b, k)
		o.Away, o.Asked, o.Coupon.Nonce = true, true, 5
		setOwn(t, b, k, o)
	}
	for i := range uint8(4) {
		h := api.Held{Coupon: api.Coupon{Value: int64(i), Status: api.Open, Nonce: 1}, Here: i > 1, Wanted: i == 1, Billed: i == 3}
		setHeld(t, b, keyOf(2*(i%2), 20+uint64(i), i), h)
	}
	return b
}

// P16.1, P16.2: the chapter's examples.
func TestExamples(t *testing.T) {
	first, second := newBook(t, 0, 3), newBook(t, 1, 3)
	k := api.Key{Ticket: issued(t, first, 0, 1), At: 1}
	tells(t, "Want", second, want(k), to(0, message(api.MsgWant, k)))
	fails(t, "Want again", second, want(k), api.ErrState)
	c := own(t, first, k).Coupon
	c.Nonce = 1
	tells(t, "a Want from 1", first, hear(1, message(api.MsgWant, k)), to(1, coupled(api.MsgGrant, k, c)))
	refuses(t, "a Want from 2", first, 2, message(api.MsgWant, k), api.ErrControl)
	tells(t, "the Grant", second, hear(0, coupled(api.MsgGrant, k, c)))
	if h := held(t, second, k); h != (api.Held{Coupon: c, Here: true}) {
		t.Errorf("what was granted: %v", h)
	}
	tells(t, "Return", second, giveBack(k), to(0, coupled(api.MsgReturn, k, c)))
	fails(t, "Return again", second, giveBack(k), api.ErrControl)
	tells(t, "the Return", first, hear(1, coupled(api.MsgReturn, k, c)))
	if o := own(t, first, k); o.Away || o.Coupon != c {
		t.Errorf("what was returned: %v", o)
	}
	fails(t, "Recall", first, recall(k), api.ErrState)
}

// P16.3: each kind.
func TestMine(t *testing.T) {
	for kind := range 256 {
		if got, want := handover.Mine(uint8(kind)), slices.Contains(kinds, uint8(kind)); got != want {
			t.Errorf("Mine(%d): %v", kind, got)
		}
	}
}

// P16.1, P16.2: nil is ErrNil, whatever else there is.
func TestNil(t *testing.T) {
	for _, k := range []api.Key{{}, keyOf(0, 1, 0), keyOf(math.MaxUint8, math.MaxUint64, math.MaxUint8)} {
		for i, c := range []call{want(k), giveBack(k), recall(k)} {
			if l, e := c(nil); e != api.ErrNil || len(l) != 0 {
				t.Errorf("call %d of nil, %v: %v, %v", i, k, l, e)
			}
		}
		for kind := range 256 {
			for _, from := range []uint8{0, 1, api.MaxCarriers, math.MaxUint8} {
				if l, e := handover.Hear(nil, from, message(uint8(kind), k)); e != api.ErrNil || len(l) != 0 {
					t.Errorf("Hear of nil from %d, kind %d: %v, %v", from, kind, l, e)
				}
			}
		}
	}
}

// R1: a book that no call made answers, and does not panic: it knows of no carrier, no ticket and no coupon.
func TestZeroBook(t *testing.T) {
	b := new(book.Book)
	k := keyOf(1, 1, 0)
	fails(t, "Want", b, want(k), api.ErrArg)
	fails(t, "Return", b, giveBack(k), api.ErrNone)
	fails(t, "Recall", b, recall(k), api.ErrNone)
	for _, kind := range kinds {
		for _, from := range []uint8{0, 1, math.MaxUint8} {
			fails(t, "Hear", b, hear(from, message(kind, k)), api.ErrArg)
		}
	}
}
