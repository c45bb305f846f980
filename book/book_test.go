package book_test

import (
	"fmt"
	"math"
	"reflect"
	"slices"
	"strings"
	"testing"

	"tarmac/api"
	"tarmac/book"
	"tarmac/ticket"
)

// most is the least of the amounts that may not be.
const most = api.MaxMoney + 1

// plain is a sale of two legs, of which the second one is carrier 0's.
func plain() api.Sale {
	return api.Sale{
		Name:    "DOE/J",
		Legs:    []api.Leg{{Carrier: 1, Flight: 10, Weight: 1}, {Carrier: 0, Flight: 20, Weight: 1}},
		Fare:    101,
		Taxes:   []api.Tax{{Code: "GB", Amount: 7}, {Code: "US", Amount: 3}},
		Penalty: 20,
	}
}

// legged is a sale of so many legs.
func legged(n int) api.Sale {
	s := plain()
	s.Legs = nil
	for i := range n {
		s.Legs = append(s.Legs, api.Leg{Carrier: uint8(i % 2), Flight: uint16(300 + i), Weight: uint32(i + 1)})
	}
	return s
}

// refused are sales that may not be.
func refused() []api.Sale {
	l := []api.Sale{{}, legged(0), legged(api.MaxCoupons + 1)}
	for _, turn := range []func(s *api.Sale){
		func(s *api.Sale) { s.Name = "" },
		func(s *api.Sale) { s.Name = "doe" },
		func(s *api.Sale) { s.Name = strings.Repeat("A", api.MaxName+1) },
		func(s *api.Sale) { s.Legs[1].Carrier = api.MaxCarriers },
		func(s *api.Sale) { s.Legs[0].Weight = 0 },
		func(s *api.Sale) { s.Fare = -1 },
		func(s *api.Sale) { s.Fare = most },
		func(s *api.Sale) { s.Fare = api.MaxMoney }, // with its taxes it is too much
		func(s *api.Sale) { s.Taxes[1].Code = "G" },
		func(s *api.Sale) { s.Taxes = slices.Repeat(s.Taxes[:1], api.MaxTaxes+1) },
		func(s *api.Sale) { s.Penalty = most },
	} {
		s := plain()
		turn(&s)
		l = append(l, s)
	}
	return l
}

// newBook is one that there must be.
func newBook(t *testing.T, self uint8, n int) *book.Book {
	t.Helper()
	b, e := book.New(self, n)
	if e != api.OK || b == nil {
		t.Fatalf("New(%d, %d): %v, %v", self, n, b, e)
	}
	return b
}

// issued is the document of a ticket that must be issued.
func issued(t *testing.T, b *book.Book, s api.Sale) api.Doc {
	t.Helper()
	d, e := b.Issue(s)
	if e != api.OK {
		t.Fatalf("Issue(%v): %v", s, e)
	}
	return d
}

// own is a coupon that there must be.
func own(t *testing.T, b *book.Book, k api.Key) api.Own {
	t.Helper()
	o, e := b.Own(k)
	if e != api.OK {
		t.Fatalf("Own(%v): %v", k, e)
	}
	return o
}

// told fails unless what a call answered is this error.
func told(t *testing.T, what string, got, want api.Errno) {
	t.Helper()
	if got != want {
		t.Errorf("%s: %v; want %v", what, got, want)
	}
}

// none fails unless what a call answered is this error, and nothing beside it.
func none(t *testing.T, what string, beside any, got, want api.Errno) {
	t.Helper()
	if got != want || !reflect.ValueOf(beside).IsZero() {
		t.Errorf("%s: %v, %v; want nothing, %v", what, beside, got, want)
	}
}

// like tells whether two documents are, lists that are nil or empty being the same.
func like(a, b api.Doc) bool {
	return fmt.Sprintf("%q", []any{a}) == fmt.Sprintf("%q", []any{b})
}

// keyOf is the key of a coupon.
func keyOf(carrier uint8, serial uint64, at uint8) api.Key {
	return api.Key{Ticket: api.Ticket{Carrier: carrier, Serial: serial}, At: at}
}

// whole is all that a book tells.
func whole(b *book.Book) string {
	var s strings.Builder
	fmt.Fprintln(&s, b == nil, b.Self(), b.Carriers(), b.Tickets(), b.Keys())
	all := b.Tickets()
	for c := range uint8(api.MaxCarriers + 1) {
		for n := range uint64(3) {
			all = append(all, api.Ticket{Carrier: c, Serial: n})
		}
	}
	for _, x := range all {
		d, e := b.Doc(x)
		fmt.Fprintln(&s, x, d, e, b.Status(x))
		for at := range uint8(api.MaxCoupons + 1) {
			o, e := b.Own(api.Key{Ticket: x, At: at})
			h, f := b.Held(api.Key{Ticket: x, At: at})
			fmt.Fprintln(&s, o, e, h, f)
		}
	}
	for _, k := range b.Keys() {
		h, e := b.Held(k)
		fmt.Fprintln(&s, k, h, e)
	}
	for to := range 256 {
		fmt.Fprint(&s, b.Open(uint8(to)), " ")
	}
	return s.String()
}

// unchanged fails unless a book tells what another one, that was like it, tells, and is the same.
func unchanged(t *testing.T, what string, b, was *book.Book) {
	t.Helper()
	if got, want := whole(b), whole(was); got != want || !b.Same(was) || !was.Same(b) {
		t.Errorf("%s: the book is another one:\n%s\nit was:\n%s", what, got, want)
	}
}

// filled is a book of carrier 1 of 3 that has some of all.
func filled(t *testing.T) *book.Book {
	t.Helper()
	b := newBook(t, 1, 3)
	for i := range 3 {
		issued(t, b, legged(1+i))
	}
	for i := range uint8(4) {
		h := api.Held{Coupon: api.Coupon{Value: int64(i), Status: api.Open, Nonce: 1}, Here: true, Wanted: i%2 == 0, Billed: i > 1}
		told(t, "SetHeld", b.SetHeld(keyOf(2*(i%2), 7-uint64(i), i), h), api.OK)
	}
	k := keyOf(1, 2, 1)
	o := own(t, b, k)
	o.Away, o.To, o.Asked, o.Coupon.Nonce = true, 2, true, 5
	told(t, "SetOwn", b.SetOwn(k, o), api.OK)
	return b
}

// P15.2 to P15.6: the chapter's examples.
func TestExamples(t *testing.T) {
	b := newBook(t, 1, 3)
	if d := issued(t, b, plain()); d.Ticket.Serial != 1 {
		t.Errorf("Issue: %v", d)
	}
	if l := b.Tickets(); !slices.Equal(l, []api.Ticket{{Carrier: 1, Serial: 1}}) {
		t.Errorf("Tickets: %v", l)
	}
	if l := b.Status(api.Ticket{Carrier: 1, Serial: 1}); !slices.Equal(l, []api.Status{api.Open, api.Open}) {
		t.Errorf("Status: %v", l)
	}
	_, e := b.Own(keyOf(1, 1, 1))
	told(t, "Own(At 1)", e, api.OK)
	_, e = b.Own(keyOf(1, 1, 2))
	told(t, "Own(At 2)", e, api.ErrNone)
	_, e = b.Doc(api.Ticket{Serial: 1})
	told(t, "Doc(carrier 0's)", e, api.ErrNone)
	told(t, "SetHeld(carrier 1's)", b.SetHeld(keyOf(1, 1, 0), api.Held{}), api.ErrArg)
	told(t, "SetHeld(carrier 0's)", b.SetHeld(keyOf(0, 1, 0), api.Held{Wanted: true}), api.OK)
	if n := b.Open(0); n != 1 {
		t.Errorf("Open(0): %d", n)
	}
}

// P15.1: each carrier among each number of them.
func TestNew(t *testing.T) {
	for _, n := range []int{math.MinInt, -256, -1, 0, 1, 2, 3, 4, 5, 6, 7, 8, 9, 10, 255, 256, 258, 1<<32 + 3, math.MaxInt} {
		for self := range 256 {
			b, e := book.New(uint8(self), n)
			if n < 2 || n > api.MaxCarriers || self >= n {
				none(t, fmt.Sprintf("New(%d, %d)", self, n), b, e, api.ErrArg)
				continue
			}
			if e != api.OK || b == nil || b.Self() != uint8(self) || b.Carriers() != n {
				t.Fatalf("New(%d, %d): %v, %v, of carrier %d among %d", self, n, b, e, b.Self(), b.Carriers())
			}
			if len(b.Tickets()) != 0 || len(b.Keys()) != 0 {
				t.Errorf("New(%d, %d): tickets %v, coupons %v", self, n, b.Tickets(), b.Keys())
			}
			for to := range 256 {
				if b.Open(uint8(to)) != 0 {
					t.Errorf("New(%d, %d): %d requests to %d are open", self, n, b.Open(uint8(to)), to)
				}
			}
		}
	}
}

// P15.1 to P15.6: all calls of nil: ErrNil, whatever else is wrong, and nothing beside it.
func TestNil(t *testing.T) {
	var b *book.Book
	if b.Self() != 0 || b.Carriers() != 0 || b.Tickets() != nil || b.Keys() != nil || b.Clone() != nil {
		t.Error("of nil something is told")
	}
	for _, s := range append(refused(), plain()) {
		d, e := b.Issue(s)
		none(t, "Issue", d, e, api.ErrNil)
	}
	for _, k := range []api.Key{{}, keyOf(0, 1, 0), keyOf(1, 1, 0), keyOf(255, math.MaxUint64, 255)} {
		d, e := b.Doc(k.Ticket)
		none(t, "Doc", d, e, api.ErrNil)
		told(t, "SetDoc", b.SetDoc(api.Doc{Ticket: k.Ticket}), api.ErrNil)
		o, e := b.Own(k)
		none(t, "Own", o, e, api.ErrNil)
		told(t, "SetOwn", b.SetOwn(k, api.Own{}), api.ErrNil)
		h, e := b.Held(k)
		none(t, "Held", h, e, api.ErrNil)
		told(t, "SetHeld", b.SetHeld(k, api.Held{Wanted: true}), api.ErrNil)
		if b.Status(k.Ticket) != nil || b.Open(k.Ticket.Carrier) != 0 {
			t.Errorf("of nil something is told of %v", k)
		}
	}
}

// R1: the zero book, which did not come from New, is among no carriers: it takes nothing, tells nothing, and panics at nothing.
func TestZeroBook(t *testing.T) {
	b := new(book.Book)
	if b.Self() != 0 || b.Carriers() != 0 || len(b.Tickets()) != 0 || len(b.Keys()) != 0 {
		t.Error("the zero book tells something")
	}
	for _, s := range append(refused(), plain()) {
		d, e := b.Issue(s)
		none(t, "Issue", d, e, api.ErrArg)
	}
	for _, k := range []api.Key{{}, keyOf(0, 1, 0), keyOf(1, 1, 0), keyOf(255, math.MaxUint64, 255)} {
		d, e := b.Doc(k.Ticket)
		none(t, "Doc", d, e, api.ErrNone)
		told(t, "SetDoc", b.SetDoc(api.Doc{Ticket: k.Ticket}), api.ErrNone)
		o, e := b.Own(k)
		none(t, "Own", o, e, api.ErrNone)
		told(t, "SetOwn", b.SetOwn(k, api.Own{}), api.ErrNone)
		h, e := b.Held(k)
		none(t, "Held", h, e, api.ErrNone)
		told(t, "SetHeld", b.SetHeld(k, api.Held{Wanted: true}), api.ErrArg)
		if len(b.Status(k.Ticket)) != 0 || b.Open(k.Ticket.Carrier) != 0 {
			t.Errorf("the zero book tells something of %v", k)
		}
	}
	unchanged(t, "the zero book", b, new(book.Book))
	unchanged(t, "its clone", b.Clone(), b)
	if b.Same(nil) || (*book.Book)(nil).Same(b) || b.Same(newBook(t, 0, 2)) {
		t.Error("the zero book is the same as another one")
	}
}

// P15.2: of each carrier among each number of them: tickets of each number of coupons, one behind the other, with their documents and Owns.
func TestIssue(t *testing.T) {
	for n := 2; n <= api.MaxCarriers; n++ {
		for self := range uint8(n) {
			b := newBook(t, self, n)
			for i := range api.MaxTickets {
				s := legged(1 + i%api.MaxCoupons)
				s.Fare = int64(i * i * 37)
				s.Legs[i%len(s.Legs)].Carrier = uint8(n - 1)
				isIssued(t, b, s, api.Ticket{Carrier: self, Serial: uint64(i + 1)})
			}
		}
	}
}

// isIssued fails unless a ticket of the sale is issued, with this number, and has its document and its Owns then.
func isIssued(t *testing.T, b *book.Book, s api.Sale, number api.Ticket) {
	t.Helper()
	want, e := ticket.Make(number, s, b.Carriers())
	told(t, "ticket.Make", e, api.OK)
	if d, e := b.Doc(number); e != api.ErrNone || len(b.Status(number)) != 0 {
		t.Errorf("ahead of Issue: %v, %v, %v", d, e, b.Status(number))
	}
	was := b.Tickets()
	if d, e := b.Issue(s); e != api.OK || !like(d, want) {
		t.Errorf("Issue(%v): %v, %v; want %v", s, d, e, want)
	}
	if d, e := b.Doc(number); e != api.OK || !like(d, want) {
		t.Errorf("Doc(%v): %v, %v; want %v", number, d, e, want)
	}
	if l := b.Tickets(); !slices.Equal(l, append(was, number)) {
		t.Errorf("Tickets: %v; want %v and %v", l, was, number)
	}
	for i, leg := range s.Legs {
		o, e := b.Own(api.Key{Ticket: number, At: uint8(i)})
		if want := (api.Own{Coupon: api.Coupon{Leg: leg, Value: want.Values[i], Status: api.Open}}); e != api.OK || o != want {
			t.Errorf("Own(%v, %d): %v, %v; want %v", number, i, o, e, want)
		}
	}
	for at := len(s.Legs); at < 256; at++ {
		o, e := b.Own(api.Key{Ticket: number, At: uint8(at)})
		none(t, "Own of no coupon", o, e, api.ErrNone)
	}
	if l := b.Status(number); !slices.Equal(l, slices.Repeat([]api.Status{api.Open}, len(s.Legs))) {
		t.Errorf("Status(%v): %v of %d coupons", number, l, len(s.Legs))
	}
}

// P15.2: sales that ticket.Make refuses are answered by its error, change nothing, and take no Serial.
func TestIssueRefused(t *testing.T) {
	for _, n := range []int{2, 3, api.MaxCarriers} {
		b := newBook(t, 1, n)
		seen := map[api.Errno]bool{}
		for serial := range uint64(3) {
			for _, s := range refused() {
				next := api.Ticket{Carrier: 1, Serial: serial + 1}
				_, want := ticket.Make(next, s, n)
				if want == api.OK {
					t.Fatalf("ticket.Make takes %v", s)
				}
				seen[want] = true
				was := b.Clone()
				d, e := b.Issue(s)
				none(t, fmt.Sprintf("Issue(%v)", s), d, e, want)
				unchanged(t, "a refused Issue", b, was)
			}
			isIssued(t, b, plain(), api.Ticket{Carrier: 1, Serial: serial + 1})
		}
		if !seen[api.ErrShape] || !seen[api.ErrOver] {
			t.Errorf("the errors were %v", seen)
		}
	}
}

// P15.2: a sale's legs are held against the number of carriers that there are.
func TestIssueCarriers(t *testing.T) {
	for n := 2; n <= api.MaxCarriers; n++ {
		b := newBook(t, 0, n)
		for c := range 256 {
			s := legged(2)
			s.Legs[1].Carrier = uint8(c)
			if c < n {
				isIssued(t, b, s, api.Ticket{Serial: uint64(c) + 1})
				continue
			}
			d, e := b.Issue(s)
			none(t, "Issue to no carrier", d, e, api.ErrShape)
		}
	}
}

// P15.2: as many documents as may be, and one more: ErrFull, ahead of what is wrong with the sale.
func TestIssueFull(t *testing.T) {
	b := filled(t)
	for i := len(b.Tickets()); i < api.MaxTickets; i++ {
		isIssued(t, b, legged(api.MaxCoupons), api.Ticket{Carrier: 1, Serial: uint64(i) + 1})
	}
	was := b.Clone()
	for _, s := range append(refused(), plain(), legged(1)) {
		d, e := b.Issue(s)
		none(t, "Issue of one more", d, e, api.ErrFull)
		unchanged(t, "Issue of one more", b, was)
	}
	if l := b.Tickets(); len(l) != api.MaxTickets || l[api.MaxTickets-1].Serial != api.MaxTickets {
		t.Errorf("Tickets: %v", l)
	}
	c := b.Clone()
	d, e := c.Issue(plain())
	none(t, "Issue of a clone", d, e, api.ErrFull)
}

// P15.2: coupons of others take no room of documents, and documents none of theirs.
func TestRoomsAreApart(t *testing.T) {
	b := newBook(t, 0, 2)
	for i := range uint64(api.MaxHeld) {
		told(t, "SetHeld", b.SetHeld(keyOf(1, i+1, 0), api.Held{}), api.OK)
	}
	for i := range uint64(api.MaxTickets) {
		isIssued(t, b, legged(api.MaxCoupons), api.Ticket{Serial: i + 1})
	}
	if len(b.Tickets()) != api.MaxTickets || len(b.Keys()) != api.MaxHeld {
		t.Errorf("%d tickets, %d coupons", len(b.Tickets()), len(b.Keys()))
	}
}

// strangers are tickets that filled's book, of carrier 1, did not issue, though it may know coupons of them.
func strangers() []api.Ticket {
	l := []api.Ticket{{}, {Carrier: 1}, {Carrier: 1, Serial: 4}, {Carrier: 1, Serial: 257}, {Carrier: 1, Serial: 1<<32 + 1},
		{Carrier: 1, Serial: api.MaxSerial}, {Carrier: 1, Serial: math.MaxUint64}, {Carrier: 255, Serial: math.MaxUint64}}
	for c := range 256 {
		if c != 1 {
			l = append(l, api.Ticket{Carrier: uint8(c), Serial: 1}, api.Ticket{Carrier: uint8(c), Serial: 7})
		}
	}
	return l
}

// P15.3, P15.4: tickets that it did not issue are ErrNone, have no Status, and may not be set.
func TestStrangers(t *testing.T) {
	b := filled(t)
	was := b.Clone()
	for _, x := range strangers() {
		d, e := b.Doc(x)
		none(t, fmt.Sprintf("Doc(%v)", x), d, e, api.ErrNone)
		told(t, fmt.Sprintf("SetDoc(%v)", x), b.SetDoc(api.Doc{Ticket: x, Sale: plain(), Values: []int64{1}, From: api.Ticket{Carrier: 1, Serial: 1}}), api.ErrNone)
		if l := b.Status(x); len(l) != 0 {
			t.Errorf("Status(%v): %v", x, l)
		}
		for at := range uint8(api.MaxCoupons + 1) {
			k := api.Key{Ticket: x, At: at}
			o, e := b.Own(k)
			none(t, fmt.Sprintf("Own(%v)", k), o, e, api.ErrNone)
			told(t, fmt.Sprintf("SetOwn(%v)", k), b.SetOwn(k, api.Own{Away: true, Asked: true}), api.ErrNone)
		}
	}
	for _, k := range []api.Key{keyOf(1, 1, 1), keyOf(1, 2, 2), keyOf(1, 3, 3), keyOf(1, 3, 4), keyOf(1, 3, 255), keyOf(1, 1, 128)} {
		o, e := b.Own(k)
		none(t, fmt.Sprintf("Own(%v)", k), o, e, api.ErrNone)
		told(t, fmt.Sprintf("SetOwn(%v)", k), b.SetOwn(k, api.Own{Away: true, Asked: true}), api.ErrNone)
	}
	unchanged(t, "what may not be set", b, was)
}

// documents are ones of a ticket that a book may be set to, of each kind: with no lists, with longer ones, with any numbers.
func documents(x api.Ticket) []api.Doc {
	far := api.Ticket{Carrier: 255, Serial: math.MaxUint64}
	long := legged(9)
	long.Name, long.Taxes = strings.Repeat("é ", 50), slices.Repeat(plain().Taxes, 9)
	return []api.Doc{
		{Ticket: x},
		{Ticket: x, Sale: plain(), Values: []int64{51, 50}, Paid: 101},
		{Ticket: x, Sale: plain(), Values: []int64{51, 50}, To: x, Paid: 101, Back: 30, Kept: 20, Left: 11},
		{Ticket: x, Sale: legged(4), Values: []int64{1, -1}, From: x, Credit: 7},
		{Ticket: x, Sale: long, Values: make([]int64, 100), From: far, To: far, Credit: math.MinInt64, Paid: math.MaxInt64, Back: -1, Kept: most, Left: -most},
		{Ticket: x, Sale: api.Sale{Legs: []api.Leg{}, Taxes: []api.Tax{}}, Values: []int64{}},
	}
}

// P15.3, P15.7: the document that was set last is told, and nothing else is changed: no other document, and no coupon, however many legs it has.
func TestSetDoc(t *testing.T) {
	b := filled(t)
	for _, x := range b.Tickets() {
		for _, d := range documents(x) {
			was := b.Clone()
			old, _ := b.Doc(x)
			for range 2 {
				told(t, "SetDoc", b.SetDoc(d), api.OK)
				if got, e := b.Doc(x); e != api.OK || !like(got, d) {
					t.Errorf("Doc: %v, %v; want %v", got, e, d)
				}
			}
			if b.Same(was) == !like(old, d) {
				t.Errorf("%v set to %v: Same is %v", old, d, b.Same(was))
			}
			back := b.Clone()
			told(t, "SetDoc", back.SetDoc(old), api.OK)
			unchanged(t, "all but the document", back, was)
		}
	}
	issued(t, b, plain())
	if l := b.Tickets(); len(l) != 4 || l[3].Serial != 4 {
		t.Errorf("Tickets: %v", l)
	}
}

// P15.3: tickets are told by their Serials, whichever was set last.
func TestTicketsInOrder(t *testing.T) {
	for self := range uint8(3) {
		b := newBook(t, self, 3)
		var want []api.Ticket
		for i := range uint64(api.MaxTickets) {
			want = append(want, issued(t, b, plain()).Ticket)
			if want[i] != (api.Ticket{Carrier: self, Serial: i + 1}) {
				t.Fatalf("ticket %d is %v", i+1, want[i])
			}
			for _, x := range slices.Backward(want) {
				told(t, "SetDoc", b.SetDoc(api.Doc{Ticket: x, Paid: int64(i)}), api.OK)
				if l := b.Tickets(); !slices.Equal(l, want) {
					t.Fatalf("Tickets: %v; want %v", l, want)
				}
			}
		}
	}
}
