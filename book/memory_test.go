package book_test

import (
	"reflect"
	"slices"
	"testing"

	"tarmac/api"
	"tarmac/book"
)

// scribble writes into all of a list, its spare room too.
func scribble[E any](l []E, x E) {
	l = l[:cap(l)]
	for i := range l {
		l[i] = x
	}
}

// scribbleSale writes into a sale's lists.
func scribbleSale(s api.Sale) {
	scribble(s.Legs, api.Leg{Carrier: 9, Flight: 9, Weight: 9})
	scribble(s.Taxes, api.Tax{Code: "!!", Amount: -9})
}

// scribbleDoc writes into a document's lists.
func scribbleDoc(d api.Doc) {
	scribbleSale(d.Sale)
	scribble(d.Values, -9)
}

// roomy is a list with room behind its end, in which something stands.
func roomy[E any](l []E, behind E) []E {
	return slices.Concat(l, []E{behind, behind, behind})[:len(l)]
}

// roomySale is a sale whose lists have room behind their ends.
func roomySale() api.Sale {
	s := plain()
	s.Legs = roomy(s.Legs, api.Leg{Carrier: 7, Flight: 7, Weight: 7})
	s.Taxes = roomy(s.Taxes, api.Tax{Code: "ZZ", Amount: 77})
	return s
}

// rooms are a document's lists with the room behind their ends.
func rooms(d api.Doc) []any {
	s := d.Sale
	return []any{slices.Clone(s.Legs[:cap(s.Legs)]), slices.Clone(s.Taxes[:cap(s.Taxes)]), slices.Clone(d.Values[:cap(d.Values)])}
}

// afterwards fails unless the book, and a clone made ahead of it, tell the same when something was written as they did ahead of it.
func afterwards(t *testing.T, what string, b *book.Book, write func()) {
	t.Helper()
	c, kept := b.Clone(), whole(b)
	write()
	if whole(b) != kept || whole(c) != kept || !b.Same(c) {
		t.Errorf("%s: what the caller wrote is told:\n%s\nit was:\n%s", what, whole(b), kept)
	}
}

// R3: a sale that is handed to Issue is neither changed nor kept, nor the room behind its lists; the document that is told is new.
func TestIssueMemory(t *testing.T) {
	b := newBook(t, 0, 2)
	for range 3 {
		s := roomySale()
		was := rooms(api.Doc{Sale: s})
		d := issued(t, b, s)
		if !reflect.DeepEqual(rooms(api.Doc{Sale: s}), was) || !reflect.DeepEqual(s, plain()) {
			t.Errorf("Issue changed the sale: %v", s)
		}
		want, _ := b.Doc(d.Ticket)
		afterwards(t, "the sale", b, func() { scribbleSale(s) })
		if !like(d, want) {
			t.Errorf("what the caller wrote into the sale is in the document that was told: %v", d)
		}
		afterwards(t, "Issue's document", b, func() { scribbleDoc(d) })
	}
}

// R3: a sale that is refused is not changed.
func TestRefusedSaleMemory(t *testing.T) {
	b := filled(t)
	for _, name := range []string{"", "DOE/J"} {
		s := roomySale()
		s.Name = name
		was := rooms(api.Doc{Sale: s})
		for range api.MaxTickets {
			b.Issue(s)
		}
		if !reflect.DeepEqual(rooms(api.Doc{Sale: s}), was) {
			t.Errorf("Issue changed the sale: %v", s)
		}
	}
}

// R3: a document that is handed to SetDoc is neither changed nor kept, nor the room behind its lists.
func TestSetDocMemory(t *testing.T) {
	b := filled(t)
	for _, x := range append(b.Tickets(), api.Ticket{}) {
		d := api.Doc{Ticket: x, Sale: roomySale(), Values: roomy([]int64{51, 50}, 55), Paid: 101}
		was := rooms(d)
		e := b.SetDoc(d)
		if (e == api.OK) != (x.Serial > 0) {
			t.Errorf("SetDoc(%v): %v", x, e)
		}
		if !reflect.DeepEqual(rooms(d), was) {
			t.Errorf("SetDoc changed the document: %v", d)
		}
		afterwards(t, "SetDoc's document", b, func() { scribbleDoc(d) })
	}
}

// R3: a document that is told is new, its spare room too; no two that are told share any.
func TestDocMemory(t *testing.T) {
	b := filled(t)
	told(t, "SetDoc", b.SetDoc(documents(api.Ticket{Carrier: 1, Serial: 2})[4]), api.OK)
	for _, x := range b.Tickets() {
		first, _ := b.Doc(x)
		second, _ := b.Doc(x)
		third, _ := b.Clone().Doc(x)
		kept, _ := b.Doc(x)
		afterwards(t, "Doc's document", b, func() { scribbleDoc(first) })
		if !like(second, kept) || !like(third, kept) {
			t.Errorf("what the caller wrote into one answer is in another one: %v, %v", second, third)
		}
		afterwards(t, "the document of a clone", b, func() { scribbleDoc(third) })
		if x == (api.Ticket{Carrier: 1, Serial: 1}) {
			afterwards(t, "one that was set and told", b, func() {
				told(t, "SetDoc", b.SetDoc(second), api.OK)
				scribbleDoc(second)
			})
		}
	}
}

// R3: what Tickets, Keys and Status tell is new, its spare room too.
func TestListsMemory(t *testing.T) {
	b := filled(t)
	x := api.Ticket{Carrier: 1, Serial: 3}
	tickets, keys, status := b.Tickets(), b.Keys(), b.Status(x)
	afterwards(t, "Tickets", b, func() { scribble(b.Tickets(), api.Ticket{Carrier: 2, Serial: 9}) })
	afterwards(t, "Keys", b, func() { scribble(b.Keys(), keyOf(0, 1, 0)) })
	afterwards(t, "Status", b, func() { scribble(b.Status(x), api.Flown) })
	if !slices.Equal(tickets, b.Tickets()) || !slices.Equal(keys, b.Keys()) || !slices.Equal(status, b.Status(x)) {
		t.Errorf("what the caller wrote into one answer is in another one: %v, %v, %v", tickets, keys, status)
	}
	issued(t, b, plain())
	told(t, "SetHeld", b.SetHeld(keyOf(0, 1, 0), api.Held{}), api.OK)
	told(t, "SetOwn", b.SetOwn(api.Key{Ticket: x}, api.Own{}), api.OK)
	if len(tickets) != 3 || len(keys) != 4 || !slices.Equal(status, []api.Status{api.Open, api.Open, api.Open}) {
		t.Errorf("what was told is changed by later calls: %v, %v, %v", tickets, keys, status)
	}
}

// R2: nothing is left behind in the package: a new book is without tickets, whatever other ones there are.
func TestBooksAreApart(t *testing.T) {
	a := filled(t)
	b := newBook(t, 1, 3)
	if len(b.Tickets()) != 0 || len(b.Keys()) != 0 {
		t.Errorf("a new book: %v, %v", b.Tickets(), b.Keys())
	}
	kept := whole(a)
	isIssued(t, b, plain(), api.Ticket{Carrier: 1, Serial: 1})
	told(t, "SetHeld", b.SetHeld(keyOf(2, 9, 0), api.Held{Billed: true}), api.OK)
	if whole(a) != kept {
		t.Error("what was done to one book was done to another one")
	}
	unchanged(t, "two that were filled alike", a, filled(t))
}
