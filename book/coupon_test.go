package book_test

import (
	"fmt"
	"math"
	"slices"
	"testing"

	"tarmac/api"
)

// someOwns are unlike ones, no field of which needs to make sense.
func someOwns() []api.Own {
	far := api.Coupon{Leg: api.Leg{Carrier: 255, Flight: math.MaxUint16, Weight: math.MaxUint32}, Value: math.MinInt64, Status: 255, Nonce: math.MaxUint32}
	return []api.Own{
		{},
		{Coupon: api.Coupon{Leg: api.Leg{Carrier: 1, Flight: 7, Weight: 3}, Value: 51, Status: api.Flown, Nonce: 2}, Away: true, To: 1, Paid: true},
		{Coupon: api.Coupon{Status: api.Void}, Asked: true},
		{Coupon: api.Coupon{Status: api.Checked}, Away: true, To: 2, Asked: true},
		{Coupon: far, Away: true, To: 255, Paid: true, Asked: true},
	}
}

// someHelds are unlike ones.
func someHelds() []api.Held {
	far := someOwns()[4].Coupon
	return []api.Held{
		{},
		{Coupon: someOwns()[1].Coupon, Here: true, Paid: true},
		{Wanted: true},
		{Coupon: api.Coupon{Status: api.Flown}, Here: true, Billed: true},
		{Coupon: far, Here: true, Paid: true, Wanted: true, Billed: true},
	}
}

// P15.4, P15.7: of each coupon the Own that was set last is told, by Own and by Status, and nothing else is changed.
func TestSetOwn(t *testing.T) {
	b := filled(t)
	for _, x := range b.Tickets() {
		for at := range uint8(x.Serial) {
			k := api.Key{Ticket: x, At: at}
			for _, o := range someOwns() {
				was, old := b.Clone(), own(t, b, k)
				for range 2 {
					told(t, "SetOwn", b.SetOwn(k, o), api.OK)
					if got := own(t, b, k); got != o {
						t.Errorf("Own(%v): %v; want %v", k, got, o)
					}
				}
				want := was.Status(x)
				want[at] = o.Coupon.Status
				if l := b.Status(x); !slices.Equal(l, want) {
					t.Errorf("Status(%v): %v; want %v", x, l, want)
				}
				if b.Same(was) != (o == old) {
					t.Errorf("%v set to %v: Same is %v", old, o, b.Same(was))
				}
				back := b.Clone()
				told(t, "SetOwn", back.SetOwn(k, old), api.OK)
				unchanged(t, "all but the coupon", back, was)
			}
		}
	}
}

// P15.4: each coupon has a Status of its own, in order.
func TestStatusInOrder(t *testing.T) {
	for n := 1; n <= api.MaxCoupons; n++ {
		b := newBook(t, 0, 2)
		x := issued(t, b, legged(n)).Ticket
		other := issued(t, b, legged(n)).Ticket
		want := make([]api.Status, n)
		for i := range n {
			at := (i*3 + 2) % n
			if n == 3 {
				at = n - 1 - i
			}
			want[at] = api.Status(i + 10)
			o := own(t, b, api.Key{Ticket: x, At: uint8(at)})
			o.Coupon.Status = want[at]
			told(t, "SetOwn", b.SetOwn(api.Key{Ticket: x, At: uint8(at)}, o), api.OK)
		}
		if l := b.Status(x); !slices.Equal(l, want) {
			t.Errorf("Status: %v; want %v", l, want)
		}
		if l := b.Status(other); !slices.Equal(l, slices.Repeat([]api.Status{api.Open}, n)) {
			t.Errorf("Status of another one: %v", l)
		}
	}
}

// P15.4: Status tells a ticket's coupons, whatever legs its document is set to.
func TestStatusOfOtherLegs(t *testing.T) {
	b := newBook(t, 0, 2)
	d := issued(t, b, legged(2))
	for n := range api.MaxCoupons + 2 {
		d.Sale, d.Values = legged(n), make([]int64, n)
		told(t, "SetDoc", b.SetDoc(d), api.OK)
		if l := b.Status(d.Ticket); !slices.Equal(l, []api.Status{api.Open, api.Open}) {
			t.Errorf("Status where the document has %d legs: %v", n, l)
		}
		o, e := b.Own(api.Key{Ticket: d.Ticket, At: 2})
		none(t, "Own(At 2)", o, e, api.ErrNone)
		told(t, "SetOwn(At 2)", b.SetOwn(api.Key{Ticket: d.Ticket, At: 2}, api.Own{}), api.ErrNone)
	}
}

// P15.5: coupons at each edge of what may be: those that may are known then, those that may not are ErrArg, and change nothing.
func TestSetHeldEdges(t *testing.T) {
	for _, n := range []int{2, 3, api.MaxCarriers} {
		for self := range uint8(n) {
			for c := range 256 {
				for _, serial := range []uint64{0, 1, 2, api.MaxSerial - 1, api.MaxSerial, api.MaxSerial + 1, 1<<34 + 5, math.MaxUint64} {
					for _, at := range []uint8{0, api.MaxCoupons - 1, api.MaxCoupons, 255} {
						b, k := newBook(t, self, n), keyOf(uint8(c), serial, at)
						what := fmt.Sprintf("SetHeld(%v) of %d among %d", k, self, n)
						h := someHelds()[1]
						if c != int(self) && c < n && serial >= 1 && serial <= api.MaxSerial && at < api.MaxCoupons {
							told(t, what, b.SetHeld(k, h), api.OK)
							if got, e := b.Held(k); e != api.OK || got != h || !slices.Equal(b.Keys(), []api.Key{k}) {
								t.Errorf("%s: %v, %v; keys %v", what, got, e, b.Keys())
							}
							continue
						}
						told(t, what, b.SetHeld(k, h), api.ErrArg)
						got, e := b.Held(k)
						none(t, what+", Held", got, e, api.ErrNone)
						if len(b.Keys()) != 0 || !b.Same(newBook(t, self, n)) {
							t.Errorf("%s was refused, and changed the book", what)
						}
					}
				}
			}
		}
	}
}

// P15.5: of its own tickets, those that it issued too, it has no Held.
func TestSetHeldOwn(t *testing.T) {
	b := filled(t)
	was := b.Clone()
	for _, k := range []api.Key{keyOf(1, 1, 0), keyOf(1, 2, 1), keyOf(1, 3, 3), keyOf(1, 9, 0)} {
		told(t, "SetHeld of its own", b.SetHeld(k, api.Held{}), api.ErrArg)
		h, e := b.Held(k)
		none(t, "Held of its own", h, e, api.ErrNone)
	}
	unchanged(t, "SetHeld of its own", b, was)
}

// P15.5, P15.7: of each coupon the Held that was set last is told; nothing else is changed, and the same one is known once.
func TestSetHeld(t *testing.T) {
	b := filled(t)
	keys := b.Keys()
	for _, k := range keys {
		for _, h := range someHelds() {
			was := b.Clone()
			old, e := b.Held(k)
			told(t, "Held", e, api.OK)
			for range 2 {
				told(t, "SetHeld", b.SetHeld(k, h), api.OK)
				if got, e := b.Held(k); e != api.OK || got != h {
					t.Errorf("Held(%v): %v, %v; want %v", k, got, e, h)
				}
			}
			if l := b.Keys(); !slices.Equal(l, keys) {
				t.Errorf("Keys: %v; want %v", l, keys)
			}
			if b.Same(was) != (h == old) {
				t.Errorf("%v set to %v: Same is %v", old, h, b.Same(was))
			}
			back := b.Clone()
			told(t, "SetHeld", back.SetHeld(k, old), api.OK)
			unchanged(t, "all but the coupon", back, was)
		}
	}
}

// P15.5: coupons beside one that it knows, unlike it by one number alone, it does not know.
func TestHeldOfNeighbours(t *testing.T) {
	b := newBook(t, 1, 4)
	told(t, "SetHeld", b.SetHeld(keyOf(2, 300, 2), someHelds()[1]), api.OK)
	for _, k := range []api.Key{{}, keyOf(0, 300, 2), keyOf(1, 300, 2), keyOf(3, 300, 2), keyOf(2, 299, 2), keyOf(2, 301, 2), keyOf(2, 44, 2),
		keyOf(2, 300+1<<32, 2), keyOf(2, 300, 1), keyOf(2, 300, 3), keyOf(2, 300, 130), keyOf(2, 0, 2), keyOf(200, 300, 2)} {
		h, e := b.Held(k)
		none(t, fmt.Sprintf("Held(%v)", k), h, e, api.ErrNone)
	}
}

// P15.5: as many coupons as may be, and one more: ErrFull of one that it does not know, behind ErrArg; those that it knows may be set still.
func TestSetHeldFull(t *testing.T) {
	b := newBook(t, 0, 3)
	var keys []api.Key
	for i := range uint64(api.MaxHeld) {
		if b.SetHeld(keyOf(1, i/4+1, uint8(i%4)), api.Held{}) != api.OK {
			t.Fatalf("SetHeld of %d", i)
		}
		keys = append(keys, keyOf(1, i/4+1, uint8(i%4)))
	}
	was := b.Clone()
	for _, k := range []api.Key{keyOf(2, 1, 0), keyOf(1, api.MaxHeld, 0), keyOf(1, api.MaxSerial, 3), keyOf(2, 17, 3)} {
		told(t, "SetHeld of one more", b.SetHeld(k, someHelds()[1]), api.ErrFull)
		told(t, "SetHeld of a clone", b.Clone().SetHeld(k, someHelds()[1]), api.ErrFull)
		h, e := b.Held(k)
		none(t, "Held of one more", h, e, api.ErrNone)
	}
	for _, k := range []api.Key{keyOf(0, 1, 0), keyOf(3, 1, 0), keyOf(2, 0, 0), keyOf(2, api.MaxSerial+1, 0), keyOf(2, 1, api.MaxCoupons)} {
		told(t, "SetHeld of one that may not be", b.SetHeld(k, api.Held{}), api.ErrArg)
	}
	unchanged(t, "SetHeld of one more", b, was)
	for i, k := range keys {
		h := someHelds()[i%5]
		told(t, "SetHeld of one that it knows", b.SetHeld(k, h), api.OK)
		if got, e := b.Held(k); e != api.OK || got != h {
			t.Errorf("Held(%v): %v, %v; want %v", k, got, e, h)
		}
	}
	if l := b.Keys(); !slices.Equal(l, keys) {
		t.Errorf("Keys: %v; want %v", l, keys)
	}
}

// P15.5: coupons are told by Carrier, then Serial, then At, whichever way they came.
func TestKeysInOrder(t *testing.T) {
	var want []api.Key
	for _, c := range []uint8{0, 1, 3, 7} {
		for _, serial := range []uint64{1, 2, 255, 256, 1 << 32, api.MaxSerial} {
			for _, at := range []uint8{0, 2} {
				want = append(want, keyOf(c, serial, at))
			}
		}
	}
	last := len(want) - 1
	for _, step := range []int{1, last, 5, 7, 11, 25, 31} { // each of these goes through all of them
		b := newBook(t, 5, api.MaxCarriers)
		at := last
		for range want {
			at = (at + step) % len(want)
			told(t, "SetHeld", b.SetHeld(want[at], api.Held{}), api.OK)
			if l := b.Keys(); !slices.IsSortedFunc(l, byNumbers) {
				t.Fatalf("Keys: %v", l)
			}
		}
		for range 3 {
			if l := b.Keys(); !slices.Equal(l, want) {
				t.Fatalf("Keys: %v; want %v", l, want)
			}
		}
	}
}
