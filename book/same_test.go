package book_test

import (
	"fmt"
	"math"
	"reflect"
	"testing"

	"tarmac/api"
	"tarmac/book"
)

// same fails unless Same answers so, asked of either.
func same(t *testing.T, what string, a, b *book.Book, want bool) {
	t.Helper()
	if a.Same(b) != want || b.Same(a) != want {
		t.Errorf("%s: Same is %v and %v; want %v", what, a.Same(b), b.Same(a), want)
	}
}

// P15.6: nil is the same as nil, and as nothing else.
func TestSameNil(t *testing.T) {
	same(t, "nil", nil, nil, true)
	for _, b := range []*book.Book{new(book.Book), newBook(t, 0, 2), filled(t)} {
		same(t, "nil and a book", nil, b, false)
		same(t, "a book and itself", b, b, true)
	}
}

// P15.6: books of other carriers, or among another number of them, are not the same, though they have nothing.
func TestSameCarriers(t *testing.T) {
	var all []*book.Book
	for n := 2; n <= api.MaxCarriers; n++ {
		for self := range uint8(n) {
			all = append(all, newBook(t, self, n))
		}
	}
	for i, a := range all {
		for j, b := range all {
			same(t, fmt.Sprintf("of %d among %d, of %d among %d", a.Self(), a.Carriers(), b.Self(), b.Carriers()), a, b, i == j)
		}
		same(t, "of the same", a, newBook(t, a.Self(), a.Carriers()), true)
	}
}

// P15.6, P15.7: books that came to the same in another order are the same.
func TestSameInAnyOrder(t *testing.T) {
	a, b := newBook(t, 0, 3), newBook(t, 0, 3)
	for i := range 20 {
		ka, kb := keyOf(1+uint8(i%2), uint64(i+1), uint8(i%4)), keyOf(1+uint8((19-i)%2), uint64(20-i), uint8((19-i)%4))
		told(t, "SetHeld", a.SetHeld(ka, api.Held{Coupon: api.Coupon{Value: int64(ka.Ticket.Serial)}}), api.OK)
		told(t, "SetHeld", b.SetHeld(kb, api.Held{Coupon: api.Coupon{Value: int64(kb.Ticket.Serial)}}), api.OK)
		issued(t, a, plain())
		issued(t, b, legged(2))
	}
	same(t, "documents of other legs", a, b, false)
	for i, x := range b.Tickets() {
		k := api.Key{Ticket: x}
		y := a.Tickets()[len(b.Tickets())-1-i]
		told(t, "SetDoc", b.SetDoc(api.Doc{Ticket: x, Paid: int64(x.Serial)}), api.OK)
		told(t, "SetDoc", a.SetDoc(api.Doc{Ticket: y, Paid: int64(y.Serial)}), api.OK)
		for at := range uint8(2) {
			k.At = at
			told(t, "SetOwn", a.SetOwn(k, api.Own{To: 1}), api.OK)
			told(t, "SetOwn", b.SetOwn(k, api.Own{To: 2}), api.OK)
			same(t, "Owns that are unlike", a, b, false)
			told(t, "SetOwn", b.SetOwn(k, api.Own{To: 1}), api.OK)
		}
	}
	unchanged(t, "books that came to the same", a, b)
}

// P15.6: one has more than the other one: a ticket, a coupon of another one's, or others in the stead of these.
func TestSameOfMore(t *testing.T) {
	a, b := filled(t), filled(t)
	same(t, "two that were filled alike", a, b, true)
	issued(t, a, plain())
	same(t, "one ticket more", a, b, false)
	b = a.Clone()
	told(t, "SetHeld", a.SetHeld(keyOf(2, 100, 0), api.Held{}), api.OK)
	same(t, "one coupon more", a, b, false)
	for _, k := range []api.Key{keyOf(0, 100, 0), keyOf(2, 101, 0), keyOf(2, 100, 1)} {
		c := b.Clone()
		told(t, "SetHeld", c.SetHeld(k, api.Held{}), api.OK)
		same(t, "another coupon", a, c, false)
	}
	told(t, "SetHeld", b.SetHeld(keyOf(2, 100, 0), api.Held{}), api.OK)
	same(t, "the same coupon", a, b, true)
}

// variants calls with each variant of a struct in which one number, text or bool, within structs and lists too, is another one, or a list is one element shorter or longer. The value is as it was behind each.
func variants(v reflect.Value, name string, call func(name string)) {
	was := reflect.New(v.Type()).Elem()
	was.Set(v)
	switch v.Kind() {
	case reflect.Struct:
		for i := range v.NumField() {
			variants(v.Field(i), name+"."+v.Type().Field(i).Name, call)
		}
		return
	case reflect.Slice:
		for i := range v.Len() {
			variants(v.Index(i), fmt.Sprintf("%s[%d]", name, i), call)
		}
		v.Set(was.Slice(0, was.Len()-1))
		call(name + " shorter")
		v.Set(reflect.Append(was.Slice3(0, was.Len(), was.Len()), was.Index(0)))
		call(name + " longer")
		v.Set(reflect.Zero(v.Type()))
	case reflect.Bool:
		v.SetBool(!v.Bool())
	case reflect.String:
		v.SetString(v.String() + "X")
		call(name + " longer")
		v.SetString("")
	default:
		for bit := range v.Type().Bits() {
			x := reflect.ValueOf(toggled(v, bit)).Convert(v.Type())
			v.Set(x)
			call(fmt.Sprintf("%s, bit %d", name, bit))
			v.Set(was)
		}
		return
	}
	call(name)
	v.Set(was)
}

// toggled is a number with one bit another one.
func toggled(v reflect.Value, bit int) uint64 {
	if v.CanInt() {
		return uint64(v.Int()) ^ 1<<bit
	}
	return v.Uint() ^ 1<<bit
}

// settled is a document of a ticket in which nothing is zero.
func settled(x api.Ticket) api.Doc {
	return api.Doc{Ticket: x, Sale: plain(), Values: []int64{51, 50, 0}, From: x, To: x, Credit: 1, Paid: 2, Back: 3, Kept: 4, Left: 5}
}

// P15.6, P15.7: of a document, an Own and a Held: each field that is another one makes the book another one, and is told so; set as it was, it is the same again.
func TestSameOfEachField(t *testing.T) {
	b := filled(t)
	x := api.Ticket{Carrier: 1, Serial: 3}
	d := settled(x)
	o, h := someOwns()[1], someHelds()[1]
	ko, kh := api.Key{Ticket: x, At: 2}, keyOf(0, 7, 0)
	told(t, "SetDoc", b.SetDoc(d), api.OK)
	told(t, "SetOwn", b.SetOwn(ko, o), api.OK)
	told(t, "SetHeld", b.SetHeld(kh, h), api.OK)
	a := b.Clone() // it stays as it is
	count := 0
	each := func(name string, set func() api.Errno) {
		count++
		told(t, name, set(), api.OK)
		same(t, name, a, b, false)
		if whole(a) == whole(b) {
			t.Errorf("%s is another one, and is not told so", name)
		}
		told(t, name, b.SetDoc(settled(x)), api.OK)
		told(t, name, b.SetOwn(ko, someOwns()[1]), api.OK)
		told(t, name, b.SetHeld(kh, someHelds()[1]), api.OK)
		same(t, name+", as it was", a, b, true)
	}
	variants(reflect.ValueOf(&o).Elem(), "Own", func(name string) { each(name, func() api.Errno { return b.SetOwn(ko, o) }) })
	variants(reflect.ValueOf(&h).Elem(), "Held", func(name string) { each(name, func() api.Errno { return b.SetHeld(kh, h) }) })
	variants(reflect.ValueOf(&d).Elem(), "Doc", func(name string) {
		if d.Ticket == x {
			each(name, func() api.Errno { return b.SetDoc(d) })
		}
	})
	if count < 1000 {
		t.Errorf("%d variants", count)
	}
}

// P15.6, R6: a list that is nil is the same as an empty one.
func TestSameOfEmptyLists(t *testing.T) {
	a := newBook(t, 0, 2)
	x := issued(t, a, plain()).Ticket
	b := a.Clone()
	told(t, "SetDoc", a.SetDoc(api.Doc{Ticket: x}), api.OK)
	told(t, "SetDoc", b.SetDoc(api.Doc{Ticket: x, Sale: api.Sale{Legs: []api.Leg{}, Taxes: plain().Taxes[:0]}, Values: []int64{}}), api.OK)
	unchanged(t, "lists that are nil, and empty", a, b)
	a, b = newBook(t, 0, 2), newBook(t, 0, 2)
	s := plain()
	s.Taxes = nil
	issued(t, a, s)
	s.Taxes = []api.Tax{}
	issued(t, b, s)
	unchanged(t, "sales whose taxes are nil, and empty", a, b)
}

// changes are what may be done to filled's book so that it is another one.
func changes() map[string]func(b *book.Book) api.Errno {
	x := api.Ticket{Carrier: 1, Serial: 2}
	return map[string]func(b *book.Book) api.Errno{
		"Issue": func(b *book.Book) api.Errno { _, e := b.Issue(plain()); return e },
		"SetDoc": func(b *book.Book) api.Errno {
			d, _ := b.Doc(x)
			d.Left++
			return b.SetDoc(d)
		},
		"SetDoc of another Value": func(b *book.Book) api.Errno {
			d, _ := b.Doc(x)
			d.Values[1]++
			return b.SetDoc(d)
		},
		"SetDoc of another Leg": func(b *book.Book) api.Errno {
			d, _ := b.Doc(x)
			d.Sale.Legs[1].Flight++
			return b.SetDoc(d)
		},
		"SetDoc of another Tax": func(b *book.Book) api.Errno {
			d, _ := b.Doc(x)
			d.Sale.Taxes[0].Amount++
			return b.SetDoc(d)
		},
		"SetOwn": func(b *book.Book) api.Errno {
			o, _ := b.Own(api.Key{Ticket: x})
			o.Paid = true
			return b.SetOwn(api.Key{Ticket: x}, o)
		},
		"SetHeld": func(b *book.Book) api.Errno {
			k := b.Keys()[1]
			h, _ := b.Held(k)
			h.Wanted = !h.Wanted
			return b.SetHeld(k, h)
		},
		"SetHeld of a new one": func(b *book.Book) api.Errno { return b.SetHeld(keyOf(2, 99, 3), api.Held{}) },
	}
}

// P15.6, P15.7: a clone tells the same, and is; what is done to one of both is not done to the other one, whichever it is.
func TestCloneGoesOnApart(t *testing.T) {
	for name, change := range changes() {
		first := filled(t)
		second := first.Clone()
		if first == second {
			t.Fatal("the clone is the book itself")
		}
		unchanged(t, "a clone", second, first)
		for _, turned := range bools {
			b, c := first.Clone(), second.Clone()
			if turned {
				b = c.Clone()
			}
			kept := whole(c)
			told(t, name, change(b), api.OK)
			same(t, name, b, c, false)
			if whole(c) != kept || !c.Same(first) {
				t.Errorf("%s of one of both: the other one is changed:\n%s\nit was:\n%s", name, whole(c), kept)
			}
			b, c = c, b
			told(t, name+" of the other one", change(b), api.OK)
			unchanged(t, name+" of both", b, c)
		}
	}
}

// P15.6: the book goes on apart from its clone too: all changes to it, one behind the other, leave the clone, and its clone, as they were.
func TestBookGoesOnApart(t *testing.T) {
	b := filled(t)
	c := b.Clone()
	cc := c.Clone()
	kept := whole(b)
	for name, change := range changes() {
		told(t, name, change(b), api.OK)
		same(t, name, b, c, false)
	}
	if whole(c) != kept || whole(cc) != kept || !c.Same(cc) {
		t.Error("what was done to a book was done to its clone")
	}
	for name, change := range changes() {
		told(t, name, change(c), api.OK)
	}
	if whole(cc) != kept {
		t.Error("what was done to a clone was done to its clone")
	}
}

// P15.6: clones of new and of full books are the same, and go on as they would.
func TestCloneOfEach(t *testing.T) {
	for n := 2; n <= api.MaxCarriers; n++ {
		for self := range uint8(n) {
			b := newBook(t, self, n)
			c := b.Clone()
			unchanged(t, "a clone", c, b)
			isIssued(t, c, plain(), api.Ticket{Carrier: self, Serial: 1})
			other := (self + 1) % uint8(n)
			told(t, "SetHeld", c.SetHeld(keyOf(other, 1, 0), api.Held{}), api.OK)
			told(t, "SetHeld", c.SetHeld(keyOf(self, 1, 0), api.Held{}), api.ErrArg)
			told(t, "SetHeld", c.SetHeld(keyOf(uint8(n), 1, 0), api.Held{}), api.ErrArg)
			unchanged(t, "a book whose clone went on", b, newBook(t, self, n))
		}
	}
	if _, e := filled(t).Clone().Own(keyOf(1, math.MaxUint64, 0)); e != api.ErrNone {
		t.Errorf("Own of a clone: %v", e)
	}
}
