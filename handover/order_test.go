package handover_test

import (
	"fmt"
	"math"
	"slices"
	"testing"

	"tarmac/api"
	"tarmac/book"
	"tarmac/handover"
)

// route is from whom to whom messages go.
type route struct{ from, to uint8 }

// party is some carriers, what they know, and what is under way between them, in order.
type party struct {
	books []*book.Book
	keys  []api.Key // of all coupons
	way   map[route][]api.Message
	moved map[string]int // how often what came about
}

// newParty is one of so many carriers, each with a ticket to whose coupons each carrier has a flight, and one more.
func newParty(t *testing.T, n int) *party {
	t.Helper()
	p := &party{way: map[route][]api.Message{}, moved: map[string]int{}}
	for self := range uint8(n) {
		b := newBook(t, self, n)
		for first := range 2 {
			var legs []uint8
			for i := range min(n, api.MaxCoupons) {
				legs = append(legs, uint8((first+i)%n))
			}
			x := issued(t, b, legs...)
			for at := range legs {
				p.keys = append(p.keys, api.Key{Ticket: x, At: uint8(at)})
			}
		}
		p.books = append(p.books, b)
	}
	return p
}

// send lets what is told set out.
func (p *party) send(t *testing.T, from uint8, l []api.Outgo) {
	t.Helper()
	for _, o := range l {
		if o.To == from || int(o.To) >= len(p.books) {
			t.Fatalf("%d tells %v", from, o)
		}
		r := route{from, o.To}
		p.way[r] = append(p.way[r], o.Message)
	}
}

// arrive lets the first message of a route come.
func (p *party) arrive(t *testing.T, r route) {
	t.Helper()
	m := p.way[r][0]
	p.way[r] = p.way[r][1:]
	l, e := handover.Hear(p.books[r.to], r.from, m)
	if e != api.OK {
		t.Fatalf("%d hears %v from %d: %v", r.to, m, r.from, e)
	}
	p.moved[fmt.Sprint("heard ", m.Kind)]++
	if m.Kind == api.MsgRecall && len(l) == 0 {
		p.moved["a Recall that crossed a Return"]++
	}
	p.send(t, r.to, l)
}

// routes are those on which something is under way.
func (p *party) routes() []route {
	var l []route
	for from := range uint8(len(p.books)) {
		for to := range uint8(len(p.books)) {
			if len(p.way[route{from, to}]) > 0 {
				l = append(l, route{from, to})
			}
		}
	}
	return l
}

// command is what an agent asks of a carrier.
func (p *party) command(t *testing.T, self uint8, k api.Key, which int) {
	t.Helper()
	c := []call{want(k), giveBack(k), recall(k)}[which]
	l, e := c(p.books[self])
	if (e == api.OK) != (len(l) == 1) {
		t.Fatalf("command %d of %d, %v: %v, %v", which, self, k, l, e)
	}
	p.moved[fmt.Sprint("command ", which, " ", e)]++
	p.send(t, self, l)
}

// use sets the status of a coupon, if a carrier controls it.
func (p *party) use(t *testing.T, self uint8, k api.Key, s api.Status) {
	t.Helper()
	b := p.books[self]
	if o, e := b.Own(k); e == api.OK && !o.Away {
		o.Coupon.Status = s
		setOwn(t, b, k, o)
	}
	if h, e := b.Held(k); e == api.OK && h.Here {
		h.Coupon.Status = s
		setHeld(t, b, k, h)
	}
}

// controls counts who controls a coupon, and the Grants to its flier and the Returns to its issuer that are under way and of its Nonce.
func (p *party) controls(t *testing.T, k api.Key) (at, under int) {
	t.Helper()
	o := own(t, p.books[k.Ticket.Carrier], k)
	if !o.Away {
		at++
	}
	for _, b := range p.books {
		h, e := b.Held(k)
		if e != api.OK || !h.Here {
			continue
		}
		at++
		if o.To != b.Self() || o.Coupon.Nonce != h.Coupon.Nonce || o.Coupon.Leg.Carrier != b.Self() {
			t.Fatalf("%v is at %d: %v; its issuer has %v", k, b.Self(), h, o)
		}
	}
	for r, l := range p.way {
		for _, m := range l {
			if m.Key != k || m.Coupon.Nonce != o.Coupon.Nonce {
				continue
			}
			if m.Kind == api.MsgGrant && r.from == k.Ticket.Carrier && r.to == o.Coupon.Leg.Carrier || m.Kind == api.MsgReturn && r.to == k.Ticket.Carrier && r.from == o.Coupon.Leg.Carrier {
				under++
			}
		}
	}
	return at, under
}

// sound fails unless each coupon is at just one carrier, or at nobody, while just one message hands it on.
func (p *party) sound(t *testing.T, what string) {
	t.Helper()
	for _, k := range p.keys {
		at, under := p.controls(t, k)
		if at+under != 1 {
			t.Fatalf("%s: %v is at %d carriers, and %d times under way", what, k, at, under)
		}
		p.moved[fmt.Sprint("at ", at, ", under way ", under)]++
	}
}

// rests lets all that is under way come, and fails unless nobody waits for anything then.
func (p *party) rests(t *testing.T, d *dice) {
	t.Helper()
	for range 10000 {
		l := p.routes()
		if len(l) == 0 {
			break
		}
		p.arrive(t, pick(d, l...))
		p.sound(t, "a message came")
	}
	if l := p.routes(); len(l) > 0 {
		t.Fatalf("there is always more under way: %v", l)
	}
	for _, b := range p.books {
		for to := range uint8(len(p.books)) {
			if n := b.Open(to); n != 0 {
				t.Fatalf("%d still waits for %d answers of %d", b.Self(), n, to)
			}
		}
	}
}

// P16.4: of two and more carriers whose messages come in order, each once, just one controls each coupon, or just one message hands it on; and all that was asked is answered when all have come.
func TestControl(t *testing.T) {
	runs := 70
	if testing.Short() {
		runs = 14
	}
	moved := map[string]int{}
	for run := range runs {
		d := dice(run)
		n := 2 + run%7
		p := newParty(t, n)
		p.moved = moved
		for _, k := range p.keys { // some were handed on nearly as often as may be
			o := own(t, p.books[k.Ticket.Carrier], k)
			o.Coupon.Nonce = pick[uint32](&d, 0, 0, 0, math.MaxUint32-2)
			setOwn(t, p.books[k.Ticket.Carrier], k, o)
		}
		for range 600 {
			self, k := uint8(d.next(n)), pick(&d, p.keys...)
			if d.bool() { // who flies it, or its issuer, more often than a stranger
				self = pick(&d, k.Ticket.Carrier, own(t, p.books[k.Ticket.Carrier], k).Coupon.Leg.Carrier)
			}
			switch l := p.routes(); {
			case len(l) > 0 && d.next(3) > 0:
				p.arrive(t, pick(&d, l...))
			case d.next(6) == 0:
				p.use(t, self, k, pick(&d, api.Open, api.Open, api.Checked, api.Boarded))
			default:
				p.command(t, self, k, d.next(3))
			}
			p.sound(t, "a step")
		}
		p.rests(t, &d)
	}
	for _, what := range []string{
		"heard 1", "heard 2", "heard 3", "heard 4", "heard 5", "a Recall that crossed a Return",
		"at 1, under way 0", "at 0, under way 1",
		"command 0 error 0", "command 0 error 1", "command 0 error 6",
		"command 1 error 0", "command 1 error 4", "command 1 error 160", "command 1 error 6",
		"command 2 error 0", "command 2 error 4", "command 2 error 6",
	} {
		if moved[what] == 0 {
			t.Errorf("it never came about: %s", what)
		}
	}
}

// P16.4: two carriers, one coupon: all that may come about in so many steps, each order of what is done and of what comes.
func TestControlOfAllOrders(t *testing.T) {
	depth := 16
	if testing.Short() {
		depth = 8
	}
	first := newBook(t, 0, 2)
	k := keyOf(issued(t, first, 1).Carrier, 1, 0)
	p := &party{books: []*book.Book{first, newBook(t, 1, 2)}, keys: []api.Key{k}, way: map[route][]api.Message{}, moved: map[string]int{}}
	p.orders(t, k, depth)
	for _, what := range []string{"a Recall that crossed a Return", "at 1, under way 0", "at 0, under way 1"} {
		if p.moved[what] == 0 {
			t.Errorf("it never came about: %s", what)
		}
	}
}

// clone is a party that goes on apart, but for what is counted.
func (p *party) clone() *party {
	c := &party{keys: p.keys, way: map[route][]api.Message{}, moved: p.moved}
	for _, b := range p.books {
		c.books = append(c.books, b.Clone())
	}
	for r, l := range p.way {
		c.way[r] = slices.Clone(l)
	}
	return c
}

// orders does all that may be done next, and all that may be done behind it.
func (p *party) orders(t *testing.T, k api.Key, depth int) {
	p.sound(t, "an order of steps")
	if depth == 0 {
		return
	}
	next := []func(c *party){
		func(c *party) { c.command(t, 1, k, 0) },
		func(c *party) { c.command(t, 1, k, 1) },
		func(c *party) { c.command(t, 0, k, 2) },
	}
	for _, r := range p.routes() {
		next = append(next, func(c *party) { c.arrive(t, r) })
	}
	if h, e := p.books[1].Held(k); e == api.OK && h.Here {
		s := api.Checked
		if h.Coupon.Status == s {
			s = api.Open
		}
		next = append(next, func(c *party) { c.use(t, 1, k, s) })
	}
	for _, do := range next {
		c := p.clone()
		do(c)
		if c.like(p) {
			continue // what was refused leads nowhere else
		}
		c.orders(t, k, depth-1)
	}
}

// like tells whether two parties are.
func (p *party) like(q *party) bool {
	for i, b := range p.books {
		if !b.Same(q.books[i]) {
			return false
		}
	}
	for from := range uint8(len(p.books)) {
		for to := range uint8(len(p.books)) {
			if !slices.Equal(p.way[route{from, to}], q.way[route{from, to}]) {
				return false
			}
		}
	}
	return true
}

// R3: what is told is new memory: what is written there, and behind it, is told by no later answer.
func TestMemory(t *testing.T) {
	junk := to(9, noisy(message(9, keyOf(9, 9, 9))))
	first, second, k := row(t)
	c := own(t, first, k).Coupon
	c.Nonce = 1
	steps := []struct {
		b    *book.Book
		c    call
		told api.Outgo
	}{
		{second, want(k), to(0, message(api.MsgWant, k))},
		{first, hear(1, message(api.MsgWant, k)), to(1, coupled(api.MsgGrant, k, c))},
		{first, hear(2, message(api.MsgWant, k)), refuse(2, k, api.ErrControl)},
		{first, recall(k), to(1, message(api.MsgRecall, k))},
		{second, hear(0, coupled(api.MsgGrant, k, c)), api.Outgo{}},
		{second, hear(0, message(api.MsgRecall, k)), to(0, coupled(api.MsgReturn, k, c))},
	}
	var kept [][]api.Outgo
	for i, s := range steps {
		was := s.b.Clone()
		l, e := s.c(s.b)
		after := s.b.Clone()
		if e != api.OK || s.told != (api.Outgo{}) && !slices.Equal(l, []api.Outgo{s.told}) {
			t.Fatalf("step %d: %v, %v; want %v", i, l, e, s.told)
		}
		kept = append(kept, slices.Clone(l))
		for j := range l[:cap(l)] {
			l[:cap(l)][j] = junk
		}
		is(t, "what is told was written to", s.b, after)
		if again, e := s.c(was); e != api.OK || !slices.Equal(again, kept[i]) {
			t.Errorf("step %d again: %v, %v; want %v", i, again, e, kept[i])
		}
	}
}
