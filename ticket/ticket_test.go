package ticket_test

import (
	"math"
	"math/big"
	"reflect"
	"slices"
	"strings"
	"testing"

	"tarmac/api"
	"tarmac/prorate"
	"tarmac/ticket"
)

const (
	most  = api.MaxMoney
	heavy = math.MaxUint32
)

// statuses are the seven; gone are those of coupons that are worth nothing any more.
var (
	statuses = []api.Status{api.Open, api.Checked, api.Boarded, api.Flown, api.Void, api.Refunded, api.Exchanged}
	gone     = []api.Status{api.Void, api.Refunded, api.Exchanged}
)

// edges are amounts at the edges of those that may be, and of all numbers.
var edges = []int64{math.MinInt64, math.MinInt64 + 1, -most - 1, -most, -most + 1, -2, -1, 0, 1, 2, most - 1, most, most + 1, math.MaxInt64 - 1, math.MaxInt64}

// dice is a row of numbers that look thrown, the same at each run.
type dice uint64

func (d *dice) next() uint64 {
	*d = *d*6364136223846793005 + 1442695040888963407
	x := uint64(*d)
	return x ^ x>>29
}

// amount is one from 0 to the greatest one, of any size.
func (d *dice) amount() int64 {
	return int64(d.next() % (most + 1) >> (d.next() % 51))
}

// either is an amount that may be, above or below 0.
func (d *dice) either() int64 {
	if d.next()%2 == 0 {
		return -d.amount()
	}
	return d.amount()
}

// sale is one that may be, of any size.
func (d *dice) sale(n int) api.Sale {
	s := api.Sale{Name: "A B/C", Fare: d.amount() / 2, Penalty: d.amount()}
	for range 1 + d.next()%api.MaxCoupons {
		s.Legs = append(s.Legs, api.Leg{Carrier: uint8(d.next() % uint64(n)), Flight: uint16(d.next()), Weight: uint32(d.next())>>(d.next()%32) | 1})
	}
	for range d.next() % (api.MaxTaxes + 1) {
		s.Taxes = append(s.Taxes, api.Tax{Code: "XY", Amount: d.amount() / 8})
	}
	return s
}

// plain is the sale of the document's examples.
func plain() api.Sale {
	return api.Sale{
		Name:    "DOE/J",
		Legs:    []api.Leg{{Flight: 10, Weight: 1}, {Carrier: 1, Flight: 11, Weight: 1}, {Flight: 12, Weight: 1}},
		Fare:    100,
		Taxes:   []api.Tax{{Code: "GB", Amount: 7}, {Code: "US", Amount: 3}},
		Penalty: 20,
	}
}

// turned is the plain sale, but for what is turned in it.
func turned(turn func(s *api.Sale)) api.Sale {
	s := plain()
	turn(&s)
	return s
}

// first is a ticket that may be among any carriers.
var first = api.Ticket{Serial: 1}

// taxes are so many of one amount.
func taxes(n int, amount int64) []api.Tax {
	return slices.Repeat([]api.Tax{{Code: "GB", Amount: amount}}, n)
}

// of are taxes of the amounts.
func of(amounts ...int64) []api.Tax {
	var l []api.Tax
	for _, a := range amounts {
		l = append(l, api.Tax{Code: "GB", Amount: a})
	}
	return l
}

// like tells whether two documents are, lists that are nil or empty being the same.
func like(a, b api.Doc) bool {
	same := ticket.Same(a.Sale, b.Sale) && slices.Equal(a.Values, b.Values)
	a.Sale, a.Values, b.Sale, b.Values = api.Sale{}, nil, api.Sale{}, nil
	return same && reflect.DeepEqual(a, b)
}

// checks fails unless Check answers so; and Make of a ticket that may be, with nothing beside an error.
func checks(t *testing.T, s api.Sale, n int, want api.Errno) {
	t.Helper()
	if e := ticket.Check(s, n); e != want {
		t.Errorf("Check(%v, %d) = %v; want %v", s, n, e, want)
	}
	d, e := ticket.Make(first, s, n)
	if e != want || e != api.OK && !reflect.DeepEqual(d, api.Doc{}) {
		t.Errorf("Make(%v, %d) = %v, %v; want %v", s, n, d, e, want)
	}
}

// prices fails unless Price answers so.
func prices(t *testing.T, fare int64, taxes []api.Tax, want int64, wantE api.Errno) {
	t.Helper()
	if p, e := ticket.Price(api.Sale{Fare: fare, Taxes: taxes}); p != want || e != wantE {
		t.Errorf("Price(%d, %v) = %d, %v; want %d, %v", fare, taxes, p, e, want, wantE)
	}
}

// The document's examples.
func TestExamples(t *testing.T) {
	s := plain()
	if p, e := ticket.Price(s); p != 110 || e != api.OK {
		t.Errorf("Price = %d, %v", p, e)
	}
	d, e := ticket.Make(first, s, 2)
	if !slices.Equal(d.Values, []int64{34, 33, 33}) || e != api.OK {
		t.Errorf("Make = %v, %v", d, e)
	}
	gives(t, 34, 20, 14, 20)
	gives(t, 10, 20, 0, 10)
	gives(t, -1, 5, 0, 0)
	balances(t, d, 0, api.Open, api.Open, api.Open)
	d.Back, d.Kept = 14, 20
	balances(t, d, 0, api.Refunded, api.Open, api.Open)
}

// P9.1: numbers of carriers: from 2 to MaxCarriers; of any other ErrArg.
func TestCheckCarriers(t *testing.T) {
	for n := 2; n <= api.MaxCarriers; n++ {
		checks(t, plain(), n, api.OK)
	}
	for _, n := range []int{math.MinInt, -2, -1, 0, 1, api.MaxCarriers + 1, 255, 256, 258, math.MaxInt} {
		checks(t, plain(), n, api.ErrArg)
		checks(t, api.Sale{}, n, api.ErrArg)
	}
}

// P9.1: a name has from 1 to MaxName bytes.
func TestCheckNameLength(t *testing.T) {
	for size := range api.MaxName + 10 {
		want := api.OK
		if size < 1 || size > api.MaxName {
			want = api.ErrShape
		}
		for _, c := range []string{"A", "Z", " ", "/"} {
			checks(t, turned(func(s *api.Sale) { s.Name = strings.Repeat(c, size) }), 2, want)
		}
	}
	checks(t, turned(func(s *api.Sale) { s.Name = strings.Repeat("É", api.MaxName/2) }), 2, api.ErrShape)
	checks(t, turned(func(s *api.Sale) { s.Name = strings.Repeat("A", 100000) }), 2, api.ErrShape)
}

// P9.1: each byte of a name, at each place, is A to Z, a blank, or /.
func TestCheckNameBytes(t *testing.T) {
	for c := range 256 {
		want := api.ErrShape
		if strings.IndexByte("ABCDEFGHIJKLMNOPQRSTUVWXYZ /", byte(c)) >= 0 {
			want = api.OK
		}
		for _, size := range []int{1, 2, 5, api.MaxName} {
			for at := range size {
				name := slices.Repeat([]byte{'M'}, size)
				name[at] = byte(c)
				checks(t, turned(func(s *api.Sale) { s.Name = string(name) }), 2, want)
			}
		}
	}
}

// P9.1: there are from 1 to MaxCoupons legs.
func TestCheckLegs(t *testing.T) {
	for size := range 3 * api.MaxCoupons {
		want := api.OK
		if size < 1 || size > api.MaxCoupons {
			want = api.ErrShape
		}
		checks(t, turned(func(s *api.Sale) { s.Legs = slices.Repeat([]api.Leg{{Weight: 1}}, size) }), 2, want)
	}
	checks(t, turned(func(s *api.Sale) { s.Legs = nil }), 2, api.ErrShape)
	checks(t, turned(func(s *api.Sale) { s.Legs = s.Legs[:0] }), 2, api.ErrShape) // there is room behind the end, but no leg
}

// P9.1: each leg's Carrier is below n.
func TestCheckLegCarrier(t *testing.T) {
	for n := 2; n <= api.MaxCarriers; n++ {
		for c := range 256 {
			for at := range 3 {
				want := api.OK
				if c >= n {
					want = api.ErrShape
				}
				checks(t, turned(func(s *api.Sale) { s.Legs[at].Carrier = uint8(c) }), n, want)
			}
		}
	}
}

// P9.1: each leg's Weight is above 0; its Flight may be any.
func TestCheckLegWeight(t *testing.T) {
	for at := range 3 {
		checks(t, turned(func(s *api.Sale) { s.Legs[at].Weight = 0 }), 2, api.ErrShape)
		for _, w := range []uint32{1, 2, 1 << 31, heavy} {
			checks(t, turned(func(s *api.Sale) { s.Legs[at].Weight = w }), 2, api.OK)
		}
		for _, f := range []uint16{0, 1, math.MaxUint16} {
			checks(t, turned(func(s *api.Sale) { s.Legs[at].Flight = f }), 2, api.OK)
		}
	}
	checks(t, turned(func(s *api.Sale) { s.Legs = slices.Repeat([]api.Leg{{Weight: heavy}}, api.MaxCoupons) }), 2, api.OK)
}

// P9.1: fare, penalty and each tax's amount are from 0 to MaxMoney.
func TestCheckAmounts(t *testing.T) {
	for _, a := range edges {
		want := api.OK
		if a < 0 || a > most {
			want = api.ErrShape
		}
		checks(t, turned(func(s *api.Sale) { s.Penalty = a }), 2, want)
		checks(t, turned(func(s *api.Sale) { s.Fare, s.Taxes = a, nil }), 2, want)
		checks(t, turned(func(s *api.Sale) { s.Fare, s.Taxes = a, taxes(api.MaxTaxes, 0) }), 2, want)
		for at := range api.MaxTaxes {
			checks(t, turned(func(s *api.Sale) {
				s.Fare, s.Taxes = 0, taxes(api.MaxTaxes, 0)
				s.Taxes[at].Amount = a
			}), 2, want)
		}
	}
}

// P9.1: there are at most MaxTaxes taxes; two of one Code may be.
func TestCheckTaxes(t *testing.T) {
	for size := range 3 * api.MaxTaxes {
		want := api.OK
		if size > api.MaxTaxes {
			want = api.ErrShape
		}
		checks(t, turned(func(s *api.Sale) { s.Taxes = taxes(size, 1) }), 2, want)
	}
	checks(t, turned(func(s *api.Sale) { s.Taxes = nil }), 2, api.OK)
}

// P9.1: a tax's Code is two letters A to Z.
func TestCheckTaxCode(t *testing.T) {
	for c := range 256 {
		want := api.ErrShape
		if c >= 'A' && c <= 'Z' {
			want = api.OK
		}
		for at := range 2 {
			code := []byte("MM")
			code[at] = byte(c)
			for i := range 2 {
				checks(t, turned(func(s *api.Sale) { s.Taxes[i].Code = string(code) }), 2, want)
			}
		}
	}
	for _, code := range []string{"", "G", "GBX", "GBGB", "É", strings.Repeat("G", 1000)} {
		checks(t, turned(func(s *api.Sale) { s.Taxes[1].Code = code }), 2, api.ErrShape)
	}
}

// P9.1: ErrOver, if fare and taxes together may not be, and all else may; the penalty is not among them.
func TestCheckTogether(t *testing.T) {
	for _, x := range []struct {
		fare  int64
		taxes []api.Tax
		want  api.Errno
	}{
		{most, nil, api.OK},
		{most, taxes(4, 0), api.OK},
		{most - 10, of(7, 3), api.OK},
		{most - 9, of(7, 3), api.ErrOver},
		{most, of(1), api.ErrOver},
		{0, of(most), api.OK},
		{1, of(0, 0, 0, most), api.ErrOver},
		{0, taxes(4, most/4), api.OK},
		{1, taxes(4, most/4), api.ErrOver},
		{most, taxes(4, most), api.ErrOver},
	} {
		for _, penalty := range []int64{0, most} {
			checks(t, turned(func(s *api.Sale) { s.Fare, s.Taxes, s.Penalty = x.fare, x.taxes, penalty }), 2, x.want)
		}
	}
}

// faults are the ways in which a sale may not be, but for the last of the conditions.
func faults() []func(s *api.Sale) {
	return []func(s *api.Sale){
		func(s *api.Sale) { s.Name = "" },
		func(s *api.Sale) { s.Name = "DOE/j" },
		func(s *api.Sale) { s.Legs = nil },
		func(s *api.Sale) { s.Legs = slices.Repeat(s.Legs, 2) },
		func(s *api.Sale) { s.Legs[2].Carrier = 2 },
		func(s *api.Sale) { s.Legs[2].Weight = 0 },
		func(s *api.Sale) { s.Fare = -1 },
		func(s *api.Sale) { s.Fare = most + 1 },
		func(s *api.Sale) { s.Taxes = append(s.Taxes, taxes(3, 0)...) },
		func(s *api.Sale) { s.Taxes[1].Code = "us" },
		func(s *api.Sale) { s.Taxes[1].Amount = -1 },
		func(s *api.Sale) { s.Taxes[1].Amount = most + 1 },
		func(s *api.Sale) { s.Penalty = -1 },
		func(s *api.Sale) { s.Penalty = most + 1 },
	}
}

// P9.1, P9.2, R5: of several errors ErrArg is told ahead of ErrShape, and that ahead of ErrOver.
func TestRefusedTwice(t *testing.T) {
	over := func(s *api.Sale) { s.Fare, s.Taxes[0].Amount = most, 1 }
	checks(t, turned(over), 2, api.ErrOver)
	checks(t, turned(over), 1, api.ErrArg)
	for _, fault := range faults() {
		checks(t, turned(fault), 2, api.ErrShape)
		checks(t, turned(fault), 1, api.ErrArg)
		checks(t, turned(fault), 9, api.ErrArg)
		both := turned(func(s *api.Sale) {
			over(s)
			fault(s)
		})
		checks(t, both, 2, api.ErrShape)
		for _, no := range []api.Ticket{{}, {Carrier: 2, Serial: 1}, {Serial: api.MaxSerial + 1}} {
			refuses(t, no, turned(fault), 2)
			refuses(t, no, both, 2)
			refuses(t, no, turned(over), 2)
		}
	}
}

// P9.1: the price is fare and taxes together, of sales that may be and of others.
func TestPrice(t *testing.T) {
	prices(t, 0, nil, 0, api.OK)
	prices(t, 100, []api.Tax{}, 100, api.OK)
	prices(t, 100, of(7, 3), 110, api.OK)
	prices(t, 0, of(0, 5), 5, api.OK)
	prices(t, most-4, taxes(4, 1), most, api.OK)
	prices(t, 1, taxes(1000, 2), 2001, api.OK)
	prices(t, 100, of(-7, 3), 96, api.OK)
	prices(t, -most, of(most, most), most, api.OK)
	s := plain()
	s.Penalty, s.Name, s.Legs = math.MaxInt64, "", nil
	if p, e := ticket.Price(s); p != 110 || e != api.OK {
		t.Errorf("Price = %d, %v: a name, legs and a penalty are no part of it", p, e)
	}
}

// P9.1: Price is ErrOver, if an amount, or the sum, may not be.
func TestPriceRefused(t *testing.T) {
	for _, a := range edges {
		if a < -most || a > most {
			prices(t, a, nil, 0, api.ErrOver)
			prices(t, a, of(-a), 0, api.ErrOver)
			prices(t, 0, of(a, -a), 0, api.ErrOver)
			prices(t, -most, of(1, a, 1), 0, api.ErrOver)
			prices(t, most, of(-1, -1, a), 0, api.ErrOver)
		}
	}
	prices(t, most, of(1), 0, api.ErrOver)
	prices(t, 1, of(most), 0, api.ErrOver)
	prices(t, most-4, of(1, 1, 1, 2), 0, api.ErrOver)
	prices(t, -most, of(-1), 0, api.ErrOver)
	prices(t, most, of(most, -most, 1), 0, api.ErrOver)
	prices(t, most, taxes(1<<13, most), 0, api.ErrOver)     // just beyond the numbers of a word
	prices(t, most, taxes(1<<14-1, most), 0, api.ErrOver)   // once round them
	prices(t, -most, taxes(1<<14-1, -most), 0, api.ErrOver) // the other way
}

// P9.1: it is what comes in all that must be one that may be, not what comes on the way.
func TestPriceOnTheWay(t *testing.T) {
	prices(t, most, of(1, -1), most, api.OK)
	prices(t, most, of(1, -5), most-4, api.OK)
	prices(t, -most, of(-1, 5), 4-most, api.OK)
	prices(t, most, of(most, most, -most, -most), most, api.OK)
	prices(t, 0, slices.Concat(taxes(1<<14, most), taxes(1<<14, -most)), 0, api.OK)
	prices(t, 1, slices.Concat(taxes(1<<14, most), taxes(1<<14, -most), of(most)), 0, api.ErrOver)
}

// together is fare and taxes in all, reckoned without bounds.
func together(fare int64, taxes []api.Tax) (int64, api.Errno) {
	sum, bound, fits := big.NewInt(fare), big.NewInt(most), true
	fits = sum.CmpAbs(bound) <= 0
	for _, x := range taxes {
		a := big.NewInt(x.Amount)
		fits = fits && a.CmpAbs(bound) <= 0
		sum.Add(sum, a)
	}
	if !fits || sum.CmpAbs(bound) > 0 {
		return 0, api.ErrOver
	}
	return sum.Int64(), api.OK
}

// P9.1: Price of all edges, and of many sizes, against sums without bounds.
func TestPriceByHand(t *testing.T) {
	for _, fare := range edges {
		for _, a := range edges {
			for _, b := range edges {
				l := of(a, b)
				want, e := together(fare, l)
				prices(t, fare, l, want, e)
			}
		}
	}
	var d dice
	for range 20000 {
		fare, l := d.either(), []api.Tax(nil)
		for range d.next() % 9 {
			l = append(l, of(d.either())...)
		}
		want, e := together(fare, l)
		prices(t, fare, l, want, e)
	}
}

// makes fails unless Make makes the document that the chapter tells.
func makes(t *testing.T, tk api.Ticket, s api.Sale, n int, values ...int64) {
	t.Helper()
	want := api.Doc{Ticket: tk, Sale: s, Values: values, Paid: s.Fare}
	if d, e := ticket.Make(tk, s, n); !like(d, want) || e != api.OK {
		t.Errorf("Make(%v, %v, %d) = %v, %v; want %v", tk, s, n, d, e, want)
	}
}

// refuses fails unless Make refuses by ErrArg, with nothing beside it.
func refuses(t *testing.T, tk api.Ticket, s api.Sale, n int) {
	t.Helper()
	if d, e := ticket.Make(tk, s, n); e != api.ErrArg || !reflect.DeepEqual(d, api.Doc{}) {
		t.Errorf("Make(%v, %v, %d) = %v, %v; want ErrArg", tk, s, n, d, e)
	}
}

// P9.2: documents, by hand.
func TestMake(t *testing.T) {
	makes(t, first, plain(), 2, 34, 33, 33)
	makes(t, api.Ticket{Carrier: 7, Serial: 12345}, plain(), 8, 34, 33, 33)
	makes(t, first, api.Sale{Name: "A", Legs: []api.Leg{{Carrier: 1, Weight: 9}}}, 2, 0)
	makes(t, first, turned(func(s *api.Sale) {
		s.Fare, s.Legs[1].Weight, s.Legs[2].Weight = 100, 2, 4
	}), 2, 14, 29, 57)
	makes(t, first, turned(func(s *api.Sale) { s.Fare, s.Legs = 101, s.Legs[:2] }), 2, 51, 50)
	makes(t, first, turned(func(s *api.Sale) {
		s.Fare, s.Taxes, s.Penalty = most, nil, most
		s.Legs = slices.Repeat([]api.Leg{{Weight: heavy}}, 4)
	}), 2, most/4, most/4, most/4, most/4)
}

// P9.2: tickets that may be, at the edges, and others.
func TestMakeTickets(t *testing.T) {
	for n := 2; n <= api.MaxCarriers; n++ {
		for c := range 256 {
			for _, serial := range []uint64{1, 2, 1 << 32, api.MaxSerial - 1, api.MaxSerial} {
				tk := api.Ticket{Carrier: uint8(c), Serial: serial}
				if c < n {
					makes(t, tk, plain(), n, 34, 33, 33)
				} else {
					refuses(t, tk, plain(), n)
				}
			}
			for _, serial := range []uint64{0, api.MaxSerial + 1, 1<<32 + api.MaxSerial, math.MaxInt64, math.MaxUint64} {
				refuses(t, api.Ticket{Carrier: uint8(c), Serial: serial}, plain(), n)
			}
		}
	}
	for _, n := range []int{math.MinInt, -1, 0, 1, 9, 256, 300, math.MaxInt} {
		refuses(t, first, plain(), n)
		refuses(t, api.Ticket{Carrier: 200}, api.Sale{}, n)
	}
}

// P9.2, P9.6: of sales of any size the values are the shares by the weights; they make up the fare, and nothing is out of balance.
func TestMakeMany(t *testing.T) {
	var d dice
	for range 5000 {
		n := 2 + int(d.next()%(api.MaxCarriers-1))
		s := d.sale(n)
		var weights []uint32
		for _, l := range s.Legs {
			weights = append(weights, l.Weight)
		}
		values, _ := prorate.Share(s.Fare, weights)
		tk := api.Ticket{Carrier: uint8(d.next() % uint64(n)), Serial: 1 + d.next()%api.MaxSerial}
		if e := ticket.Check(s, n); e != api.OK {
			t.Fatalf("Check(%v, %d) = %v", s, n, e)
		}
		makes(t, tk, s, n, values...)
		doc, _ := ticket.Make(tk, s, n)
		var sum int64
		for _, v := range doc.Values {
			sum += v
		}
		if sum != s.Fare || len(doc.Values) != len(s.Legs) {
			t.Fatalf("%v: the values make up %d", doc, sum)
		}
		balances(t, doc, 0, slices.Repeat([]api.Status{api.Open}, len(values))...)
		settled(t, &d, doc)
	}
}

// settled fails unless a document is in balance, too, when some of its coupons are given back, and others are used.
func settled(t *testing.T, d *dice, doc api.Doc) {
	t.Helper()
	status := make([]api.Status, len(doc.Values))
	for i, v := range doc.Values {
		status[i] = statuses[d.next()%uint64(len(statuses))]
		if slices.Contains(gone, status[i]) {
			given, kept := ticket.Give(v, doc.Sale.Penalty)
			doc.Back += given
			doc.Kept += kept
		}
	}
	balances(t, doc, 0, status...)
}

// R3: what Make is handed it leaves as it was, and shares nothing with it; nor do two documents.
func TestNothingShared(t *testing.T) {
	s := plain()
	s.Legs, s.Taxes = append(s.Legs, api.Leg{Flight: 77})[:3], append(s.Taxes, api.Tax{Code: "room"})[:2]
	d, e := ticket.Make(first, s, 2)
	other, _ := ticket.Make(first, s, 2)
	ticket.Check(s, 2)
	ticket.Price(s)
	if e != api.OK || !ticket.Same(s, plain()) || s.Legs[:4][3].Flight != 77 || s.Taxes[:3][2].Code != "room" {
		t.Fatalf("%v: the sale is now %v, %v, %v", e, s, s.Legs[:4], s.Taxes[:3])
	}
	for i := range d.Sale.Legs[:cap(d.Sale.Legs)] {
		d.Sale.Legs[:cap(d.Sale.Legs)][i] = api.Leg{Flight: 99}
	}
	for i := range d.Sale.Taxes[:cap(d.Sale.Taxes)] {
		d.Sale.Taxes[:cap(d.Sale.Taxes)][i] = api.Tax{Code: "99"}
	}
	for i := range d.Values[:cap(d.Values)] {
		d.Values[:cap(d.Values)][i] = 99
	}
	if !ticket.Same(s, plain()) || s.Legs[:4][3].Flight != 77 || s.Taxes[:3][2].Code != "room" {
		t.Errorf("the sale is now %v", s)
	}
	s.Legs[0].Weight, s.Taxes[0].Amount = 50, 50
	if !ticket.Same(other.Sale, plain()) || !slices.Equal(other.Values, []int64{34, 33, 33}) {
		t.Errorf("another document is now %v", other)
	}
}

// gives fails unless Give answers so.
func gives(t *testing.T, value, penalty, given, kept int64) {
	t.Helper()
	if g, k := ticket.Give(value, penalty); g != given || k != kept {
		t.Errorf("Give(%d, %d) = %d, %d; want %d, %d", value, penalty, g, k, given, kept)
	}
}

// P9.3: what is given, and what is kept.
func TestGive(t *testing.T) {
	gives(t, 0, 0, 0, 0)
	gives(t, 5, 0, 5, 0)
	gives(t, 0, 5, 0, 0)
	gives(t, 20, 20, 0, 20)
	gives(t, 21, 20, 1, 20)
	gives(t, 19, 20, 0, 19)
	gives(t, most, most-1, 1, most-1)
	gives(t, most-1, most, 0, most-1)
	gives(t, math.MaxInt64, 1, math.MaxInt64-1, 1)
	gives(t, 1, math.MaxInt64, 0, 1)
	gives(t, math.MaxInt64, math.MaxInt64, 0, math.MaxInt64)
}

// P9.3: of either below 0 nothing is given, and nothing kept.
func TestGiveBelowZero(t *testing.T) {
	for _, below := range []int64{-1, -2, -most, math.MinInt64} {
		for _, other := range edges {
			gives(t, below, other, 0, 0)
			gives(t, other, below, 0, 0)
		}
	}
}

// P9.3, P9.6: what is given and what is kept make up the value; the penalty is kept, or all that there is.
func TestGiveMany(t *testing.T) {
	var d dice
	for i := range 20000 {
		value, penalty := d.amount(), d.amount()
		if i%4 == 0 {
			value = penalty + int64(d.next()%5) - 2
		}
		if value < 0 {
			continue
		}
		g, k := ticket.Give(value, penalty)
		if g+k != value || g < 0 || k < 0 || k > penalty || k < penalty && g != 0 {
			t.Fatalf("Give(%d, %d) = %d, %d", value, penalty, g, k)
		}
	}
}

// balances fails unless the balance is so, whatever is paid.
func balances(t *testing.T, d api.Doc, want int64, status ...api.Status) {
	t.Helper()
	paid := make([]bool, len(status))
	for mask := range 1 << len(status) {
		for i := range paid {
			paid[i] = mask>>i&1 == 1
		}
		if b, e := ticket.Balance(d, status, paid); b != want || e != api.OK {
			t.Fatalf("Balance(%v, %v, %v) = %d, %v; want %d", d, status, paid, b, e, want)
		}
	}
}

// unbalanced fails unless Balance is refused by the error, with nothing beside it.
func unbalanced(t *testing.T, want api.Errno, d api.Doc, status []api.Status, paid []bool) {
	t.Helper()
	if b, e := ticket.Balance(d, status, paid); b != 0 || e != want {
		t.Errorf("Balance(%v, %v, %v) = %d, %v; want %v", d, status, paid, b, e, want)
	}
}

// P9.4: each of a document's fields, by itself.
func TestBalanceFields(t *testing.T) {
	balances(t, api.Doc{}, 0)
	balances(t, api.Doc{Paid: 3}, 3)
	balances(t, api.Doc{Credit: 3}, 3)
	balances(t, api.Doc{Back: 3}, -3)
	balances(t, api.Doc{Kept: 3}, -3)
	balances(t, api.Doc{Left: 3}, -3)
	balances(t, api.Doc{Values: []int64{3}}, -3, api.Open)
	balances(t, api.Doc{Paid: 1000, Credit: 2000, Back: 100, Kept: 20, Left: 3, Values: []int64{400, 50}}, 2427, api.Open, api.Flown)
	balances(t, api.Doc{Paid: -1, Credit: -20, Back: -300, Kept: -4000, Left: -50000, Values: []int64{-600000}}, 654279, api.Open)
	balances(t, api.Doc{Sale: plain(), Ticket: first, From: first, To: first}, 0) // the others are not asked
}

// P9.4: a coupon's value is told off by its status; whether it is paid is all one.
func TestBalanceStatus(t *testing.T) {
	d := api.Doc{Paid: 1000, Values: []int64{1, 20, 300, 4000}}
	for _, s := range statuses {
		for at := range d.Values {
			status := slices.Repeat([]api.Status{api.Void}, 4)
			status[at] = s
			want := int64(1000)
			if !slices.Contains(gone, s) {
				want -= d.Values[at]
			}
			balances(t, d, want, status...)
		}
	}
	balances(t, d, 1000-4321, api.Open, api.Checked, api.Boarded, api.Flown)
	balances(t, d, 1000-4000, api.Void, api.Refunded, api.Exchanged, api.Flown)
}

// P9.4: ErrArg, if status or paid has not as many elements as there are values.
func TestBalanceLengths(t *testing.T) {
	for values := range 6 {
		for status := range 6 {
			for paid := range 6 {
				d := api.Doc{Paid: 7, Values: make([]int64, values)}
				s, p := slices.Repeat([]api.Status{api.Open}, status), make([]bool, paid)
				if values == status && values == paid {
					balances(t, d, 7, s...)
				} else {
					unbalanced(t, api.ErrArg, d, s, p)
				}
			}
		}
	}
	unbalanced(t, api.ErrArg, api.Doc{Values: []int64{1}}, nil, nil)
	balances(t, api.Doc{Paid: 100, Values: slices.Repeat([]int64{5}, 10)}, 50, slices.Repeat([]api.Status{api.Open}, 10)...)
}

// P9.4: ErrArg, if one of status is none; ahead of ErrOver.
func TestBalanceNoStatus(t *testing.T) {
	for n := range 256 {
		for at := range 3 {
			status := slices.Repeat([]api.Status{api.Open}, 3)
			status[at] = api.Status(n)
			if slices.Contains(statuses, status[at]) {
				continue
			}
			unbalanced(t, api.ErrArg, api.Doc{Values: []int64{1, 2, 3}}, status, make([]bool, 3))
			unbalanced(t, api.ErrArg, api.Doc{Paid: most + 1, Values: []int64{1, 2, 3}}, status, make([]bool, 3))
			unbalanced(t, api.ErrArg, api.Doc{Values: []int64{math.MinInt64, 2, math.MaxInt64}}, status, make([]bool, 3))
		}
	}
	unbalanced(t, api.ErrArg, api.Doc{Paid: most + 1}, []api.Status{api.Open}, make([]bool, 1))
}

// P9.4: ErrOver, if one of the amounts may not be; the value of a coupon that is gone is not asked.
func TestBalanceOver(t *testing.T) {
	one, open := []bool{false}, []api.Status{api.Open}
	for _, a := range edges {
		if a >= -most && a <= most {
			balances(t, api.Doc{Paid: a}, a)
			balances(t, api.Doc{Left: a}, -a)
			continue
		}
		for _, d := range []api.Doc{{Paid: a}, {Credit: a}, {Back: a}, {Kept: a}, {Left: a}, {Paid: a, Credit: -a}, {Paid: a, Back: a}} {
			unbalanced(t, api.ErrOver, d, nil, nil)
		}
		unbalanced(t, api.ErrOver, api.Doc{Values: []int64{a}}, open, one)
		unbalanced(t, api.ErrOver, api.Doc{Paid: most, Values: []int64{a}}, open, one)
		unbalanced(t, api.ErrOver, api.Doc{Paid: -most, Values: []int64{a}}, open, one)
		for _, s := range gone {
			balances(t, api.Doc{Paid: 1, Values: []int64{a}}, 1, s)
		}
	}
}

// P9.4: the sums are taken in order: what comes on the way must be one that may be, though what comes in all were.
func TestBalanceInOrder(t *testing.T) {
	for _, d := range []api.Doc{
		{Paid: most, Credit: 1, Back: 1},
		{Paid: most, Credit: 1, Values: []int64{1, 0}},
		{Paid: -most, Credit: -1, Kept: -1},
		{Paid: -most, Back: 1, Kept: -1},
		{Paid: -most, Kept: 1, Left: -1},
		{Paid: -most, Left: 1, Values: []int64{-1, 0}},
		{Paid: -most, Values: []int64{1, -1}},
		{Paid: most, Values: []int64{-1, 1}},
	} {
		d.Values = append(d.Values, make([]int64, 2-len(d.Values))...)
		unbalanced(t, api.ErrOver, d, []api.Status{api.Open, api.Flown}, make([]bool, 2))
	}
	two := []api.Status{api.Open, api.Open}
	balances(t, api.Doc{Paid: most, Back: 1, Left: -1, Values: []int64{most, 0}}, 0, two...)
	balances(t, api.Doc{Paid: most, Credit: -1, Back: -1, Values: []int64{0, most}}, 0, two...)
	balances(t, api.Doc{Paid: most, Back: most, Kept: most, Values: []int64{-1, 1}}, -most, two...)
	balances(t, api.Doc{Credit: -most, Back: -1, Kept: 1}, -most)
	balances(t, api.Doc{Paid: most, Values: []int64{1, -1}}, most, two...)
	balances(t, api.Doc{Paid: most, Values: []int64{-1, 1}}, most-1, api.Void, api.Open)
}

// inOrder is a balance reckoned without bounds, and asked at each step.
func inOrder(d api.Doc, status []api.Status) (int64, api.Errno) {
	sum, fits := new(big.Int), true
	step := func(a int64, less bool) {
		n := big.NewInt(a)
		fits = fits && n.CmpAbs(big.NewInt(most)) <= 0
		if less {
			n.Neg(n)
		}
		fits = fits && sum.Add(sum, n).CmpAbs(big.NewInt(most)) <= 0
	}
	step(d.Paid, false)
	step(d.Credit, false)
	step(d.Back, true)
	step(d.Kept, true)
	step(d.Left, true)
	for i, v := range d.Values {
		if !slices.Contains(gone, status[i]) {
			step(v, true)
		}
	}
	if !fits {
		return 0, api.ErrOver
	}
	return sum.Int64(), api.OK
}

// P9.4: documents of any amounts, against sums without bounds.
func TestBalanceByHand(t *testing.T) {
	var d dice
	amount := func() int64 {
		if d.next()%32 == 0 {
			return edges[d.next()%uint64(len(edges))]
		}
		return d.either()
	}
	refused := 0
	for range 50000 {
		doc := api.Doc{Paid: amount(), Credit: amount(), Back: amount(), Kept: amount(), Left: amount()}
		var status []api.Status
		for range d.next() % 6 {
			doc.Values = append(doc.Values, amount())
			status = append(status, statuses[d.next()%uint64(len(statuses))])
		}
		want, e := inOrder(doc, status)
		if e == api.OK {
			balances(t, doc, want, status...)
		} else {
			unbalanced(t, e, doc, status, make([]bool, len(status)))
			refused++
		}
	}
	if refused < 1000 || refused > 40000 {
		t.Errorf("%d were refused", refused)
	}
}

// R3: Balance leaves what it is handed as it was.
func TestBalanceChangesNothing(t *testing.T) {
	values, status, paid := []int64{34, 33, 33, 77}, []api.Status{api.Open, api.Void, api.Flown, 77}, []bool{true, false, true, true}
	d := api.Doc{Paid: 100, Values: values[:3]}
	if b, e := ticket.Balance(d, status[:3], paid[:3]); b != 33 || e != api.OK {
		t.Errorf("Balance = %d, %v", b, e)
	}
	if !slices.Equal(values, []int64{34, 33, 33, 77}) || !slices.Equal(status, []api.Status{api.Open, api.Void, api.Flown, 77}) || !slices.Equal(paid, []bool{true, false, true, true}) {
		t.Errorf("now %v, %v, %v", values, status, paid)
	}
}

// same fails unless Same answers so, either way round.
func same(t *testing.T, a, b api.Sale, want bool) {
	t.Helper()
	if ticket.Same(a, b) != want || ticket.Same(b, a) != want {
		t.Errorf("Same(%v, %v) = %v, and the other way %v; want %v", a, b, ticket.Same(a, b), ticket.Same(b, a), want)
	}
}

// P9.5: sales that are alike, whether they may be or not; lists that are nil and empty ones are the same.
func TestSame(t *testing.T) {
	same(t, plain(), plain(), true)
	same(t, api.Sale{}, api.Sale{}, true)
	same(t, api.Sale{Legs: []api.Leg{}, Taxes: []api.Tax{}}, api.Sale{}, true)
	for _, fault := range faults() {
		same(t, turned(fault), turned(fault), true)
		same(t, turned(fault), plain(), false)
	}
	roomy := turned(func(s *api.Sale) {
		s.Legs, s.Taxes = append(s.Legs, api.Leg{Weight: 9})[:3], append(s.Taxes, api.Tax{Code: "room"})[:2]
	})
	same(t, roomy, plain(), true) // what is behind the ends is no part of them
}

// P9.5: sales that are unlike in one field, or one element, or in their order or number.
func TestNotSame(t *testing.T) {
	turns := []func(s *api.Sale){
		func(s *api.Sale) { s.Name = "DOE/K" },
		func(s *api.Sale) { s.Name = "DOE/J " },
		func(s *api.Sale) { s.Name = "doe/j" },
		func(s *api.Sale) { s.Fare++ },
		func(s *api.Sale) { s.Fare = -s.Fare },
		func(s *api.Sale) { s.Penalty++ },
		func(s *api.Sale) { s.Fare, s.Penalty = s.Penalty, s.Fare },
		func(s *api.Sale) { s.Legs = s.Legs[:2] },
		func(s *api.Sale) { s.Legs = nil },
		func(s *api.Sale) { s.Legs = append(s.Legs, api.Leg{}) },
		func(s *api.Sale) { s.Legs[0], s.Legs[1] = s.Legs[1], s.Legs[0] },
		func(s *api.Sale) { s.Taxes = s.Taxes[:1] },
		func(s *api.Sale) { s.Taxes = nil },
		func(s *api.Sale) { s.Taxes = append(s.Taxes, api.Tax{}) },
		func(s *api.Sale) { s.Taxes[0], s.Taxes[1] = s.Taxes[1], s.Taxes[0] },
		func(s *api.Sale) { s.Taxes[0].Amount, s.Taxes[1].Amount = s.Taxes[1].Amount, s.Taxes[0].Amount },
	}
	for at := range 3 {
		turns = append(turns,
			func(s *api.Sale) { s.Legs[at].Carrier += 2 },
			func(s *api.Sale) { s.Legs[at].Flight++ },
			func(s *api.Sale) { s.Legs[at].Weight++ })
	}
	for at := range 2 {
		turns = append(turns,
			func(s *api.Sale) { s.Taxes[at].Code = "FR" },
			func(s *api.Sale) { s.Taxes[at].Amount++ })
	}
	for _, turn := range turns {
		same(t, turned(turn), plain(), false)
		same(t, turned(turn), turned(turn), true)
	}
}
