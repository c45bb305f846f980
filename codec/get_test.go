package codec_test

import (
	"bytes"
	"math"
	"reflect"
	"slices"
	"sort"
	"strings"
	"testing"

	"tarmac/api"
	"tarmac/codec"
)

// again fails unless what Get says of the bytes is that they are none, or a record that has just these bytes. It tells whether they are a record's.
func again(t *testing.T, b []byte) bool {
	t.Helper()
	was := bytes.Clone(b)
	r, e := codec.Get(b)
	if !bytes.Equal(b, was) {
		t.Fatalf("Get wrote to %x: %x", was, b)
	}
	if e == api.OK {
		if !bytes.Equal(laid(t, r), b) {
			t.Fatalf("Get(%x): %#v, which has other bytes", b, r)
		}
		return true
	}
	unread(t, "some bytes", b)
	return false
}

// P14.2: bytes that are cut at each place.
func TestCut(t *testing.T) {
	for _, r := range some() {
		b := laid(t, r)
		for n := range b {
			unread(t, "cut bytes", b[:n])
			unread(t, "cut bytes with no room behind", bytes.Clone(b[:n]))
		}
		for n := 1; n < len(b); n++ {
			again(t, b[n:])
		}
	}
}

// P14.2: each byte more, and more than one.
func TestMore(t *testing.T) {
	for _, r := range some() {
		b := laid(t, r)
		for c := range 256 {
			unread(t, "a byte more", append(bytes.Clone(b), byte(c)))
		}
		for _, next := range some() {
			unread(t, "two records", slices.Concat(b, laid(t, next)))
		}
		unread(t, "many bytes more", append(bytes.Clone(b), make([]byte, 1<<16)...))
	}
}

// P14.2: a kind that is none, whatever is behind it.
func TestNoKind(t *testing.T) {
	for kind := range 256 {
		if 1 <= kind && kind <= 3 {
			unread(t, "a kind alone", []byte{byte(kind)})
			continue
		}
		for n := range 80 {
			unread(t, "no kind", append([]byte{byte(kind)}, make([]byte, n)...))
		}
		for _, r := range some() {
			b := laid(t, r)
			b[0] = byte(kind)
			unread(t, "no kind", b)
		}
	}
}

// P14.2: a byte that tells of how many bytes or elements there are: more than may be, with as many behind it; and more, or fewer, than there are.
func TestCounts(t *testing.T) {
	const name, leg, tax, code = 20, 21, 30, 31 // their bytes in a command whose sale has nothing
	blank := recordAs(api.Record{Kind: api.RecCommand})
	with := func(at, n, size int) []byte {
		b := bytes.Clone(blank)
		b[at] = byte(n)
		return slices.Insert(b, at+1, make([]byte, n*size)...)
	}
	for n := range 256 {
		for _, x := range []struct{ at, most, size int }{{name, api.MaxName, 1}, {leg, api.MaxCoupons, 7}, {tax, api.MaxTaxes, 9}} {
			b := with(x.at, n, x.size)
			if again(t, b) != (n <= x.most) {
				t.Errorf("%d at byte %d: %x", n, x.at, b)
			}
			b[x.at]++
			again(t, b)
			b[x.at] -= 2
			again(t, b)
		}
		b := slices.Insert(with(tax, 1, 9), code+1, make([]byte, n)...)
		b[code] = byte(n)
		if again(t, b) != (n <= api.MaxName) {
			t.Errorf("a code of %d bytes: %x", n, b)
		}
	}
	for _, at := range []int{name, leg, tax} {
		for n := 1; n < 256; n++ {
			for end := at + 1; end <= len(blank); end++ {
				b := bytes.Clone(blank[:end])
				b[at] = byte(n)
				again(t, b)
			}
		}
	}
}

// P14.2: the last field of a list is there, and no more.
func TestEndOfList(t *testing.T) {
	for n := range api.MaxCoupons + 1 {
		whole := recordAs(ofSale(api.Sale{Legs: legs(n)}))
		for _, told := range []int{n - 1, n + 1} {
			b := bytes.Clone(whole)
			b[21] = byte(told)
			unread(t, "another number of legs", b)
		}
	}
	for n := range api.MaxTaxes + 1 {
		whole := recordAs(ofSale(api.Sale{Taxes: slices.Repeat([]api.Tax{{Code: "GB", Amount: 1 << 60}}, n)}))
		for _, told := range []int{n - 1, n + 1} {
			b := bytes.Clone(whole)
			b[30] = byte(told)
			unread(t, "another number of taxes", b)
		}
	}
}

// P14.3: each byte of a record's bytes another one: no record, or another one that has just these bytes.
func TestEachByteChanged(t *testing.T) {
	for _, r := range some() {
		was := laid(t, r)
		for at := range was {
			for c := range 256 {
				b := bytes.Clone(was)
				b[at] = byte(c)
				if again(t, b) && byte(c) != was[at] {
					if got, _ := codec.Get(b); same(got, r) {
						t.Errorf("%x and %x are both bytes of %#v", was, b, r)
					}
				}
			}
		}
	}
}

// P14.2: a name and a code may be any bytes, and amounts any numbers: nobody asks whether they may be sold.
func TestAnyBytes(t *testing.T) {
	for c := range 256 {
		text := strings.Repeat(string([]byte{byte(c)}), 3)
		laid(t, ofSale(api.Sale{Name: text, Taxes: []api.Tax{{Code: text, Amount: -int64(c)}}}))
		laid(t, api.Record{Kind: api.RecCommand, Command: api.Command{Kind: uint8(c), At: uint8(c)}})
		laid(t, api.Record{Kind: api.RecPacket, Message: api.Message{Kind: uint8(c), Coupon: api.Coupon{Status: api.Status(c)}, Code: api.Errno(-c)}})
	}
}

// P14.3: no record's bytes begin with those of another one.
func TestNoneBeginsWithAnother(t *testing.T) {
	by := dice(14)
	all := some()
	for n := range api.MaxName + 1 {
		all = append(all, ofSale(api.Sale{Name: strings.Repeat("\x00", n)}))
	}
	for n := range api.MaxCoupons + 1 {
		for m := range api.MaxTaxes + 1 {
			all = append(all, ofSale(api.Sale{Legs: make([]api.Leg, n), Taxes: make([]api.Tax, m)}))
		}
	}
	for range 3000 {
		all = append(all, by.record())
	}
	var l []string
	for _, r := range all {
		l = append(l, string(laid(t, r)))
	}
	sort.Strings(l)
	l = slices.Compact(l)
	for i := 1; i < len(l); i++ { // a text stands just ahead of the first one that begins with it
		if strings.HasPrefix(l[i], l[i-1]) {
			t.Fatalf("%x begins with %x", l[i], l[i-1])
		}
	}
}

// R3: what Put is handed stays as it is, with the room behind the lists' ends; what it answers is nobody else's.
func TestPutKeepsNothing(t *testing.T) {
	manyLegs, manyTaxes := legs(8), taxes(8)
	r := ofSale(api.Sale{Name: "DOE/J", Legs: manyLegs[:2], Fare: 101, Taxes: manyTaxes[:3]})
	want := recordAs(r)
	first, second := laid(t, r), laid(t, r)
	for i := range first[:cap(first)] {
		first[:cap(first)][i] = 0xaa
	}
	if !bytes.Equal(second, want) || !bytes.Equal(laid(t, r), want) {
		t.Error("what the caller wrote into an answer is seen in another one")
	}
	if !slices.Equal(manyLegs, legs(8)) || !slices.Equal(manyTaxes, taxes(8)) {
		t.Error("Put wrote to what it was handed")
	}
	manyLegs[0].Weight++
	manyTaxes[0].Code = "other"
	if !bytes.Equal(second, want) {
		t.Error("what the caller wrote into an argument is seen in an answer")
	}
	for _, s := range []api.Sale{{Legs: manyLegs[:5]}, {Taxes: manyTaxes[:5]}, {Legs: manyLegs[:4], Taxes: manyTaxes}} {
		was := api.Sale{Legs: slices.Clone(manyLegs), Taxes: slices.Clone(manyTaxes)}
		unlaid(t, "too much", ofSale(s), api.ErrLong)
		if !slices.Equal(manyLegs, was.Legs) || !slices.Equal(manyTaxes, was.Taxes) {
			t.Error("a Put that was refused wrote to what it was handed")
		}
	}
}

// R3: what Get is handed stays as it is, with the room behind its end; what it answers is nobody else's.
func TestGetKeepsNothing(t *testing.T) {
	want := ofSale(api.Sale{Name: "DOE/J", Legs: legs(3), Fare: 101, Taxes: taxes(4)})
	room := append(laid(t, want), "behind"...)
	was := bytes.Clone(room)
	b := room[:len(room)-len("behind")]
	first, _ := codec.Get(b)
	second, _ := codec.Get(b)
	s := first.Command.Sale
	for i := range s.Legs[:cap(s.Legs)] {
		s.Legs[:cap(s.Legs)][i] = api.Leg{Carrier: 9}
	}
	for i := range s.Taxes[:cap(s.Taxes)] {
		s.Taxes[:cap(s.Taxes)][i] = api.Tax{Code: "other"}
	}
	third, _ := codec.Get(b)
	if !same(second, want) || !same(third, want) {
		t.Error("what the caller wrote into an answer is seen in another one")
	}
	if !bytes.Equal(room, was) {
		t.Error("Get wrote to what it was handed")
	}
	for i := range room {
		room[i] = 0xaa
	}
	if !same(second, want) {
		t.Error("what the caller wrote into an argument is seen in an answer")
	}
}

// dice is a row of numbers that look thrown, the same at each run.
type dice uint64

// upTo is a thrown number from 0 to n.
func (d *dice) upTo(n int) int {
	return int(d.number() >> 1 % uint64(n+1))
}

// number is a thrown one.
func (d *dice) number() uint64 {
	*d = *d*6364136223846793005 + 1442695040888963407
	x := uint64(*d)
	return (x ^ x>>31) * 0x9e3779b97f4a7c15
}

// amount is a thrown number: a small one, an edge, or any.
func (d *dice) amount() int64 {
	return []int64{0, 1, -1, int64(d.upTo(300)), -int64(d.upTo(300)), math.MinInt64, math.MaxInt64, int64(d.number())}[d.upTo(7)]
}

// text is a thrown one of n bytes.
func (d *dice) text(n int) string {
	b := make([]byte, n)
	for i := range b {
		b[i] = byte(d.upTo(d.upTo(255)))
	}
	return string(b)
}

// leg is a thrown one.
func (d *dice) leg() api.Leg {
	return api.Leg{Carrier: uint8(d.amount()), Flight: uint16(d.amount()), Weight: uint32(d.amount())}
}

// ticket is a thrown one.
func (d *dice) ticket() api.Ticket {
	return api.Ticket{Carrier: uint8(d.amount()), Serial: uint64(d.amount())}
}

// sale is a thrown one.
func (d *dice) sale() api.Sale {
	s := api.Sale{Name: d.text(d.upTo(api.MaxName)), Fare: d.amount(), Penalty: d.amount()}
	for range d.upTo(api.MaxCoupons) {
		s.Legs = append(s.Legs, d.leg())
	}
	for range d.upTo(api.MaxTaxes) {
		s.Taxes = append(s.Taxes, api.Tax{Code: d.text(d.upTo(api.MaxName)), Amount: d.amount()})
	}
	return s
}

// record is a thrown one that may be.
func (d *dice) record() api.Record {
	r := api.Record{Kind: uint8(1 + d.upTo(2))}
	if r.Kind == api.RecCommand {
		r.Command = api.Command{Kind: uint8(d.amount()), Ticket: d.ticket(), At: uint8(d.amount()), Amount: d.amount(), Sale: d.sale()}
		return r
	}
	r.From, r.Number = uint8(d.amount()), uint64(d.amount())
	if r.Kind == api.RecPacket {
		r.Message = api.Message{Kind: uint8(d.amount()), Key: api.Key{Ticket: d.ticket(), At: uint8(d.amount())}, Amount: d.amount(), Code: api.Errno(d.amount())}
		r.Message.Coupon = api.Coupon{Leg: d.leg(), Value: d.amount(), Status: api.Status(d.amount()), Nonce: uint32(d.amount())}
	}
	return r
}

// P14.1 to P14.3: thrown records are laid as the chapter tells, and read again; bytes of theirs that are cut, changed, doubled or thrown together are none, or are laid again.
func TestRuns(t *testing.T) {
	by := dice(15)
	runs := 40000
	if testing.Short() {
		runs = 2000
	}
	found := 0
	for range runs {
		b := laid(t, by.record())
		for range by.upTo(3) {
			at := by.upTo(len(b) - 1)
			switch by.upTo(4) {
			case 0:
				b[at] = byte(by.number())
			case 1:
				b[at] += byte(by.upTo(2) - 1)
			case 2:
				b = slices.Delete(b, at, at+1)
				b = append(b, 0)
			case 3:
				b = slices.Insert(b, at, byte(by.upTo(4)))
			case 4:
				b = b[:max(at, 1)]
			}
		}
		if again(t, b) {
			found++
		}
	}
	if found < runs/10 || found > runs*9/10 {
		t.Errorf("%d of %d were records", found, runs)
	}
}

// P14.2: thrown bytes, most of them few and small.
func TestThrownBytes(t *testing.T) {
	by := dice(16)
	for range 50000 {
		again(t, []byte(by.text(by.upTo(80))))
	}
	if r, e := codec.Get(make([]byte, 1<<20)); e != api.ErrRecord || !reflect.DeepEqual(r, api.Record{}) {
		t.Errorf("many noughts: %v", e)
	}
}
