package book_test

import (
	"math"
	"testing"

	"tarmac/api"
	"tarmac/book"
)

// opens fails unless just these requests are open: to 0, to 1, and so on; to all others none.
func opens(t *testing.T, what string, b *book.Book, want ...int) {
	t.Helper()
	for to := range 256 {
		n := 0
		if to < len(want) {
			n = want[to]
		}
		if got := b.Open(uint8(to)); got != n {
			t.Errorf("%s: %d requests to %d are open; want %d", what, got, to, n)
		}
	}
}

// bools are both.
var bools = []bool{false, true}

// P15.6: an Own is an open request to whom it is Away to, if it is Asked and Away, whatever else there is of it.
func TestOpenOwns(t *testing.T) {
	b := newBook(t, 1, 4)
	k := api.Key{Ticket: issued(t, b, plain()).Ticket, At: 1}
	opens(t, "a new ticket", b)
	for to := range uint8(4) {
		for _, away := range bools {
			for _, asked := range bools {
				for _, paid := range bools {
					o := own(t, b, k)
					o.Away, o.Asked, o.Paid, o.To = away, asked, paid, to
					told(t, "SetOwn", b.SetOwn(k, o), api.OK)
					want := make([]int, 4)
					if away && asked {
						want[to] = 1
					}
					opens(t, "an Own", b, want...)
				}
			}
		}
	}
}

// P15.6: a Held is an open request to its issuer if it is Wanted, one if it is Billed, and two if it is both, whatever else there is of it.
func TestOpenHelds(t *testing.T) {
	for _, c := range []uint8{0, 2, 3} {
		for i := range 16 {
			h := api.Held{Here: i&1 != 0, Paid: i&2 != 0, Wanted: i&4 != 0, Billed: i&8 != 0}
			h.Coupon.Leg.Carrier = 3
			b := newBook(t, 1, 4)
			told(t, "SetHeld", b.SetHeld(keyOf(c, 5, 3), h), api.OK)
			want := make([]int, 4)
			want[c] = i>>2&1 + i>>3&1
			opens(t, "a Held", b, want...)
		}
	}
}

// P15.6: open requests of all kinds are put together, to each carrier by itself; what is answered is open no more.
func TestOpenOfAll(t *testing.T) {
	b := newBook(t, 1, 3)
	for range 5 {
		x := issued(t, b, legged(3)).Ticket
		for at := range uint8(3) {
			k := api.Key{Ticket: x, At: at}
			o := own(t, b, k)
			o.Away, o.Asked, o.To = true, at > 0, at
			told(t, "SetOwn", b.SetOwn(k, o), api.OK)
		}
	}
	for i := range uint64(12) {
		told(t, "SetHeld", b.SetHeld(keyOf(2*uint8(i%2), i+1, 0), api.Held{Wanted: i < 9, Billed: i > 6}), api.OK)
	}
	opens(t, "all", b, 5+2, 5, 4+3+5)
	for i, k := range b.Keys() {
		told(t, "SetHeld", b.SetHeld(k, api.Held{Here: true, Paid: true}), api.OK)
		if i == 5 {
			opens(t, "those to 0 are answered", b, 0, 5, 4+3+5)
		}
	}
	opens(t, "the Owns", b, 0, 5, 5)
	for i, x := range b.Tickets() {
		told(t, "SetOwn", b.SetOwn(api.Key{Ticket: x, At: 2}, api.Own{Away: true, To: 2}), api.OK)
		opens(t, "one Own fewer", b, 0, 5, 4-i)
	}
}

// P15.6: as many requests as there may be are open: all that a book may have.
func TestOpenMost(t *testing.T) {
	b := newBook(t, 0, 2)
	for range api.MaxTickets {
		x := issued(t, b, legged(api.MaxCoupons)).Ticket
		for at := range uint8(api.MaxCoupons) {
			told(t, "SetOwn", b.SetOwn(api.Key{Ticket: x, At: at}, api.Own{Away: true, To: 1, Asked: true}), api.OK)
		}
	}
	for i := range uint64(api.MaxHeld) {
		told(t, "SetHeld", b.SetHeld(keyOf(1, i+1, 0), api.Held{Wanted: true, Billed: true}), api.OK)
	}
	opens(t, "the most", b, 0, api.MaxTickets*api.MaxCoupons+2*api.MaxHeld)
}

// P15.6: who an Own is Away to is taken as it was set, a carrier or none.
func TestOpenToAny(t *testing.T) {
	b := newBook(t, 0, 2)
	k := api.Key{Ticket: issued(t, b, plain()).Ticket}
	for to := range 256 {
		told(t, "SetOwn", b.SetOwn(k, api.Own{Away: true, To: uint8(to), Asked: true}), api.OK)
		want := make([]int, to+1)
		want[to] = 1
		opens(t, "an Own", b, want...)
	}
	told(t, "SetHeld", b.SetHeld(keyOf(1, api.MaxSerial, 0), api.Held{Wanted: true}), api.OK)
	if n := b.Open(math.MaxUint8); n != 1 {
		t.Errorf("Open(255): %d", n)
	}
}
