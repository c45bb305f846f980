package handover_test

import (
	"fmt"
	"math"
	"slices"
	"testing"

	"tarmac/api"
	"tarmac/book"
)

// noisy is a message with something in each field that is zero.
func noisy(m api.Message) api.Message {
	if m.Coupon == (api.Coupon{}) {
		m.Coupon = api.Coupon{Leg: api.Leg{Carrier: 2, Flight: 99, Weight: 9}, Value: 999, Status: api.Flown, Nonce: 4}
	}
	if m.Code == api.OK {
		m.Code = api.ErrFull
	}
	m.Amount = 77
	return m
}

// P16.2: what comes from self, from no carrier, or is of another kind, is ErrArg.
func TestHearArg(t *testing.T) {
	b := others(t)
	k := keyOf(0, 7, 1)
	setHeld(t, b, k, api.Held{Coupon: api.Coupon{Status: api.Open}, Here: true, Wanted: true})
	for kind := range 256 {
		for from := range 256 {
			if slices.Contains(kinds, uint8(kind)) && from < 3 && from != 1 {
				continue
			}
			for _, at := range []api.Key{k, keyOf(1, 1, 1), keyOf(uint8(from), 9, 0)} {
				if l, e := hear(uint8(from), message(uint8(kind), at))(b); e != api.ErrArg || len(l) != 0 {
					t.Fatalf("kind %d from %d: %v, %v; want nothing, ErrArg", kind, from, l, e)
				}
			}
		}
	}
	after := others(t)
	setHeld(t, after, k, held(t, b, k))
	is(t, "what was refused", b, after)
}

// P16.2: among each number of carriers each but self may tell something, to each.
func TestHearCarriers(t *testing.T) {
	for n := 2; n <= api.MaxCarriers; n++ {
		for self := range n {
			b := newBook(t, uint8(self), n)
			for from := range 256 {
				for i, kind := range kinds {
					m := message(kind, keyOf(uint8(from), 1, uint8(i%api.MaxCoupons)))
					switch {
					case from == self || from >= n:
						fails(t, "Hear", b, hear(uint8(from), m), api.ErrArg)
					case kind == api.MsgWant:
						refuses(t, "a Want", b, uint8(from), m, api.ErrNone)
					case kind == api.MsgGrant:
						after := b.Clone()
						setHeld(t, after, m.Key, api.Held{Here: true})
						tells(t, "a Grant", b, hear(uint8(from), m))
						is(t, "a Grant", b, after)
					default:
						quiet(t, "Hear", b, hear(uint8(from), m))
					}
				}
			}
		}
	}
}

// P16.2: a coupon that may be is handed on to its flier, its Nonce one more; Paid and Asked stay as they are.
func TestHearWant(t *testing.T) {
	k := keyOf(1, 2, 2)
	for _, nonce := range []uint32{0, 1, 255, 256, 1 << 16, math.MaxUint32 - 2, math.MaxUint32 - 1} {
		for _, o := range owns() {
			if o.Away {
				continue
			}
			o.Coupon.Nonce = nonce
			for _, m := range []api.Message{message(api.MsgWant, k), noisy(message(api.MsgWant, k))} {
				b := others(t)
				setOwn(t, b, k, o)
				gone := o
				gone.Coupon.Nonce, gone.Away, gone.To = nonce+1, true, 2
				after := b.Clone()
				setOwn(t, after, k, gone)
				what := fmt.Sprint("a Want of ", o)
				tells(t, what, b, hear(2, m), to(2, coupled(api.MsgGrant, k, gone.Coupon)))
				is(t, what, b, after)
				refuses(t, what+" again", b, 2, m, api.ErrControl)
			}
		}
	}
}

// P16.2: why a Want is refused, and which of the reasons is told of several.
func TestHearWantRefused(t *testing.T) {
	k := keyOf(1, 2, 2)
	o := api.Own{Coupon: api.Coupon{Leg: api.Leg{Carrier: 2}, Status: api.Open}}
	for i := range 16 {
		for _, s := range statuses[1:] {
			for c := range uint8(3) {
				p, from, want := o, uint8(2), api.OK
				if i&1 != 0 {
					p.Coupon.Nonce, want = math.MaxUint32, api.ErrFull
				}
				if i&2 != 0 {
					p.Coupon.Status, want = s, api.ErrState
				}
				if i&4 != 0 {
					from, want = 0, api.ErrArg
				}
				if i&8 != 0 {
					p.Away, p.To, want = true, c, api.ErrControl
				}
				if want == api.OK {
					continue
				}
				b := others(t)
				setOwn(t, b, k, p)
				refuses(t, fmt.Sprint("a Want from ", from, " of ", p), b, from, message(api.MsgWant, k), want)
				refuses(t, fmt.Sprint("a noisy Want from ", from, " of ", p), b, from, noisy(message(api.MsgWant, k)), want)
			}
		}
	}
}

// P16.2: a coupon that is its issuer's own flight is handed on to nobody, and one of no carrier neither.
func TestHearWantOfOwnFlight(t *testing.T) {
	for leg := range 256 {
		for _, from := range []uint8{0, 2} {
			b := others(t)
			k := keyOf(1, 1, 0)
			setOwn(t, b, k, api.Own{Coupon: api.Coupon{Leg: api.Leg{Carrier: uint8(leg)}, Status: api.Open}})
			if uint8(leg) == from {
				c := own(t, b, k).Coupon
				c.Nonce = 1
				tells(t, "a Want of a flight", b, hear(from, message(api.MsgWant, k)), to(from, coupled(api.MsgGrant, k, c)))
				continue
			}
			refuses(t, "a Want of another one's flight", b, from, message(api.MsgWant, k), api.ErrArg)
		}
	}
}

// P16.2: what this carrier did not sell is refused with ErrNone, whoever did.
func TestHearWantNone(t *testing.T) {
	b := others(t)
	for _, k := range append(append(outside()[3:], within()...), b.Keys()...) {
		for _, from := range []uint8{0, 2} {
			refuses(t, fmt.Sprint("a Want of ", k), b, from, message(api.MsgWant, k), api.ErrNone)
			refuses(t, fmt.Sprint("a Want of ", k), b, from, noisy(message(api.MsgWant, k)), api.ErrNone)
		}
	}
	refuses(t, "a Want of a coupon more", b, 2, message(api.MsgWant, keyOf(1, 1, 4)), api.ErrNone)
	refuses(t, "a Want of a ticket more", b, 2, message(api.MsgWant, keyOf(1, 3, 2)), api.ErrNone)
}

// granted is a coupon that is told.
func granted(nonce uint32) api.Coupon {
	return api.Coupon{Leg: api.Leg{Carrier: 1, Flight: 21, Weight: 7}, Value: 51, Status: api.Open, Nonce: nonce}
}

// P16.2: a Grant of a coupon that is not known is taken, whatever its Nonce, and whatever its coupon.
func TestHearGrantNew(t *testing.T) {
	for _, k := range within() {
		for _, c := range []api.Coupon{{}, granted(0), granted(1), granted(math.MaxUint32), {Leg: api.Leg{Carrier: 2}, Value: -1, Status: math.MaxUint8, Nonce: 9}} {
			for _, m := range []api.Message{coupled(api.MsgGrant, k, c), {Kind: api.MsgGrant, Key: k, Coupon: c, Amount: 9, Code: api.ErrState}} {
				b := others(t)
				after := b.Clone()
				setHeld(t, after, k, api.Held{Coupon: c, Here: true})
				tells(t, "a Grant", b, hear(k.Ticket.Carrier, m))
				is(t, fmt.Sprint("a Grant of ", k), b, after)
				quiet(t, "a Grant that comes twice", b, hear(k.Ticket.Carrier, m))
			}
		}
	}
}

// P16.2: a Grant of one that is known is taken if it is not Here, and of a smaller Nonce; it is nothing else then but Here.
func TestHearGrantKnown(t *testing.T) {
	k := keyOf(2, 5, 3)
	edges := []uint32{0, 1, 2, 254, 255, 256, 1 << 31, math.MaxUint32 - 1, math.MaxUint32}
	for _, h := range somes() {
		for _, was := range edges {
			for _, nonce := range append([]uint32{was - 1, was, was + 1}, edges...) {
				h.Coupon.Nonce = was
				b := newBook(t, 1, 3)
				setHeld(t, b, k, h)
				m := coupled(api.MsgGrant, k, granted(nonce))
				what := fmt.Sprint("a Grant of the Nonce ", nonce, " of ", h)
				if h.Here || was >= nonce {
					quiet(t, what, b, hear(2, m))
					continue
				}
				after := b.Clone()
				setHeld(t, after, k, api.Held{Coupon: granted(nonce), Here: true})
				tells(t, what, b, hear(2, m))
				is(t, what, b, after)
				quiet(t, what+" again", b, hear(2, m))
			}
		}
	}
}

// P16.2: a Grant is taken however the coupon that is known, and the one that is told, stand.
func TestHearGrantStatus(t *testing.T) {
	k := keyOf(2, 5, 3)
	for _, was := range statuses {
		for _, now := range statuses {
			b := others(t)
			setHeld(t, b, k, api.Held{Coupon: api.Coupon{Status: was, Nonce: 1}})
			c := granted(2)
			c.Status = now
			tells(t, "a Grant", b, hear(2, coupled(api.MsgGrant, k, c)))
			if h := held(t, b, k); h != (api.Held{Coupon: c, Here: true}) {
				t.Errorf("a Grant of one of the status %d: %v", was, h)
			}
		}
	}
}

// P16.2: a Grant from another one than the issuer is nothing, and one of a coupon that may not be known neither.
func TestHearGrantOfOthers(t *testing.T) {
	b := others(t)
	for _, k := range append(append(outside(), within()...), b.Keys()...) {
		for _, from := range []uint8{0, 2} {
			if k.Ticket.Carrier == from && slices.Contains(append(within(), b.Keys()...), k) {
				continue
			}
			quiet(t, fmt.Sprint("a Grant of ", k, " from ", from), b, hear(from, coupled(api.MsgGrant, k, granted(9))))
		}
	}
}

// P16.2: the last coupon that may be known is taken, one more is ErrFull; one that is known is taken in a full book too; what would be nothing is that, not ErrFull.
func TestHearGrantFull(t *testing.T) {
	b := others(t)
	last, more, known, here := keyOf(0, 500, 0), keyOf(0, 501, 0), keyOf(2, 502, 1), keyOf(2, 503, 1)
	setHeld(t, b, known, api.Held{Coupon: granted(3), Paid: true, Wanted: true, Billed: true})
	setHeld(t, b, here, api.Held{Coupon: granted(3), Here: true})
	fill(t, b, 1)
	tells(t, "the last one", b, hear(0, coupled(api.MsgGrant, last, granted(1))))
	fails(t, "one more", b, hear(0, coupled(api.MsgGrant, more, granted(1))), api.ErrFull)
	fails(t, "one more, of the Nonce 0", b, hear(0, coupled(api.MsgGrant, more, granted(0))), api.ErrFull)
	quiet(t, "one more from another one", b, hear(2, coupled(api.MsgGrant, more, granted(1))))
	quiet(t, "the last one again", b, hear(0, coupled(api.MsgGrant, last, granted(2))))
	quiet(t, "one that is here", b, hear(2, coupled(api.MsgGrant, here, granted(4))))
	quiet(t, "one that is known, of the same Nonce", b, hear(2, coupled(api.MsgGrant, known, granted(3))))
	tells(t, "one that is known", b, hear(2, coupled(api.MsgGrant, known, granted(4))))
	if h := held(t, b, known); h != (api.Held{Coupon: granted(4), Here: true}) {
		t.Errorf("in a full book: %v", h)
	}
	for _, k := range []api.Key{keyOf(0, 0, 0), keyOf(0, api.MaxSerial+1, 0), keyOf(0, 1, api.MaxCoupons)} {
		fails(t, "one that may not be known, in a full book", b, hear(0, coupled(api.MsgGrant, k, granted(1))), api.ErrFull)
	}
}

// P16.2: a Refuse from the issuer ends a Want; all else stays, and another one's is nothing.
func TestHearRefuseOfWant(t *testing.T) {
	k := keyOf(2, 5, 3)
	for _, h := range somes() {
		for _, s := range statuses {
			for code := api.OK; code <= api.ErrControl; code += 4 {
				h.Coupon.Status = s
				b := newBook(t, 1, 3)
				setHeld(t, b, k, h)
				m := api.Message{Kind: api.MsgRefuse, Key: k, Code: code}
				quiet(t, "a Refuse of a stranger", b, hear(0, m))
				after := b.Clone()
				ended := h
				ended.Wanted = false
				setHeld(t, after, k, ended)
				tells(t, "a Refuse", b, hear(2, m))
				is(t, fmt.Sprint("a Refuse of ", h), b, after)
				quiet(t, "a Refuse that comes twice", b, hear(2, m))
			}
		}
	}
}

// P16.2: a Refuse from whom a coupon is Away to ends a Recall; all else stays, and another one's is nothing.
func TestHearRefuseOfRecall(t *testing.T) {
	k := keyOf(1, 2, 2)
	for _, o := range owns() {
		for _, s := range statuses {
			for _, from := range []uint8{0, 2} {
				for _, m := range []api.Message{message(api.MsgRefuse, k), noisy(message(api.MsgRefuse, k))} {
					o.Coupon.Status = s
					b := newBook(t, 1, 3)
					issued(t, b, 1, 0, 2)
					issued(t, b, 1, 0, 2)
					setOwn(t, b, k, o)
					after := b.Clone()
					ended := o
					if o.Away && o.To == from {
						ended.Asked = false
					}
					setOwn(t, after, k, ended)
					what := fmt.Sprint("a Refuse from ", from, " of ", o)
					tells(t, what, b, hear(from, m))
					is(t, what, b, after)
					quiet(t, what+" again", b, hear(from, m))
				}
			}
		}
	}
}

// P16.2: a Refuse, a Recall or a Return of a coupon that is not known is nothing.
func TestHearOfUnknown(t *testing.T) {
	b := others(t)
	for _, k := range append(append(outside()[3:], within()...), keyOf(1, 1, 4), keyOf(1, 3, 0)) {
		for _, from := range []uint8{0, 2} {
			for _, kind := range []uint8{api.MsgRefuse, api.MsgRecall, api.MsgReturn} {
				quiet(t, fmt.Sprint("kind ", kind, " of ", k), b, hear(from, message(kind, k)))
				quiet(t, fmt.Sprint("kind ", kind, " of ", k), b, hear(from, noisy(message(kind, k))))
			}
		}
	}
}

// P16.2: a Recall from the issuer has what is Here handed back if it may be, else refused; what is not Here is nothing, as is another one's Recall.
func TestHearRecall(t *testing.T) {
	for _, k := range within() {
		from := k.Ticket.Carrier
		for _, h := range somes() {
			for _, s := range statuses {
				h.Coupon.Status = s
				b := newBook(t, 1, 3)
				setHeld(t, b, k, h)
				m := message(api.MsgRecall, k)
				what := fmt.Sprint("a Recall of ", h)
				quiet(t, what+" of a stranger", b, hear(2-from, m))
				switch {
				case !h.Here:
					quiet(t, what, b, hear(from, m))
					quiet(t, what, b, hear(from, noisy(m)))
				case s != api.Open:
					refuses(t, what, b, from, m, api.ErrState)
					refuses(t, what, b, from, noisy(m), api.ErrState)
				default:
					after := b.Clone()
					gone := h
					gone.Here = false
					setHeld(t, after, k, gone)
					other := b.Clone()
					tells(t, what, other, hear(from, noisy(m)), to(from, coupled(api.MsgReturn, k, h.Coupon)))
					tells(t, what, b, hear(from, m), to(from, coupled(api.MsgReturn, k, h.Coupon)))
					is(t, what, b, after)
					is(t, "a noisy one", other, after)
					quiet(t, what+" again", b, hear(from, m))
					fails(t, "Return", b, giveBack(k), api.ErrControl)
				}
			}
		}
	}
}

// P16.2: a Recall of a coupon that this carrier sold is nothing, whoever tells it.
func TestHearRecallOfOwn(t *testing.T) {
	for _, o := range owns() {
		b := others(t)
		k := keyOf(1, 2, 2)
		setOwn(t, b, k, o)
		for _, from := range []uint8{0, 2} {
			quiet(t, fmt.Sprint("a Recall from ", from, " of ", o), b, hear(from, message(api.MsgRecall, k)))
		}
	}
}

// P16.2: a Return is taken if the coupon is Away, to whom it comes from, and of the same Nonce; its coupon stays as it was, and all else but Away and Asked.
func TestHearReturn(t *testing.T) {
	k := keyOf(1, 2, 2)
	edges := []uint32{0, 1, 255, 256, 1 << 31, math.MaxUint32}
	for _, o := range owns() {
		for _, was := range edges {
			for _, nonce := range append([]uint32{was - 1, was, was + 1}, edges...) {
				for _, from := range []uint8{0, 2} {
					o.Coupon.Nonce = was
					b := newBook(t, 1, 3)
					issued(t, b, 1, 0, 2)
					issued(t, b, 1, 0, 2)
					setOwn(t, b, k, o)
					m := coupled(api.MsgReturn, k, api.Coupon{Leg: api.Leg{Carrier: 9}, Value: -7, Status: api.Flown, Nonce: nonce})
					what := fmt.Sprint("a Return from ", from, " of the Nonce ", nonce, " of ", o)
					if !o.Away || o.To != from || was != nonce {
						quiet(t, what, b, hear(from, m))
						continue
					}
					after := b.Clone()
					back := o
					back.Away, back.Asked = false, false
					setOwn(t, after, k, back)
					tells(t, what, b, hear(from, m))
					is(t, what, b, after)
					quiet(t, what+" again", b, hear(from, m))
				}
			}
		}
	}
}

// P16.2: a Return is taken however its coupon stands at its issuer, and nothing of a coupon that is another one's.
func TestHearReturnStatus(t *testing.T) {
	k := keyOf(1, 2, 2)
	for _, s := range statuses {
		b := others(t)
		setOwn(t, b, k, api.Own{Coupon: api.Coupon{Status: s, Nonce: 3}, Away: true, To: 2})
		tells(t, "a Return", b, hear(2, noisy(coupled(api.MsgReturn, k, granted(3)))))
		if o := own(t, b, k); o != (api.Own{Coupon: api.Coupon{Status: s, Nonce: 3}, To: 2}) {
			t.Errorf("a Return of one of the status %d: %v", s, o)
		}
	}
	k = keyOf(2, 5, 3)
	for _, h := range somes() {
		b := others(t)
		setHeld(t, b, k, h)
		for _, from := range []uint8{0, 2} {
			quiet(t, "a Return of another one's", b, hear(from, coupled(api.MsgReturn, k, h.Coupon)))
		}
	}
}

// row are two carriers with a coupon of the first one's, which the second one flies.
func row(t *testing.T) (first, second *book.Book, k api.Key) {
	t.Helper()
	first, second = newBook(t, 0, 3), newBook(t, 1, 3)
	return first, second, keyOf(issued(t, first, 1).Carrier, 1, 0)
}

// P16.2: a Grant that comes late, behind the coupon's Return, is not taken again; the next one is; the Return that comes twice is of a Nonce that was.
func TestLateOnes(t *testing.T) {
	first, second, k := row(t)
	c := own(t, first, k).Coupon
	var grants, returns []api.Message
	for i := range uint32(4) {
		tells(t, "Want", second, want(k), to(0, message(api.MsgWant, k)))
		c.Nonce = i + 1
		tells(t, "a Want", first, hear(1, message(api.MsgWant, k)), to(1, coupled(api.MsgGrant, k, c)))
		grants = append(grants, coupled(api.MsgGrant, k, c))
		for _, m := range grants[:i] {
			quiet(t, "a Grant that comes late", second, hear(0, m))
		}
		for _, m := range returns {
			quiet(t, "a Return that comes late", first, hear(1, m))
		}
		tells(t, "the Grant", second, hear(0, grants[i]))
		for _, m := range grants {
			quiet(t, "a Grant that comes twice", second, hear(0, m))
		}
		quiet(t, "a Refuse that comes late", second, hear(0, message(api.MsgRefuse, k)))
		tells(t, "Return", second, giveBack(k), to(0, coupled(api.MsgReturn, k, c)))
		for _, m := range grants {
			quiet(t, "a Grant that comes twice", second, hear(0, m))
		}
		quiet(t, "a Recall that comes late", second, hear(0, message(api.MsgRecall, k)))
		returns = append(returns, coupled(api.MsgReturn, k, c))
		quiet(t, "a Return of a stranger", first, hear(2, returns[i]))
		tells(t, "the Return", first, hear(1, returns[i]))
		quiet(t, "a Return that comes twice", first, hear(1, returns[i]))
		quiet(t, "a Refuse that comes late", first, hear(1, message(api.MsgRefuse, k)))
	}
}

// P16.1, P16.2: a Recall that crosses a Return: the coupon is back, and nothing is asked any more.
func TestCrossing(t *testing.T) {
	first, second, k := row(t)
	tells(t, "Want", second, want(k), to(0, message(api.MsgWant, k)))
	c := own(t, first, k).Coupon
	c.Nonce = 1
	tells(t, "a Want", first, hear(1, message(api.MsgWant, k)), to(1, coupled(api.MsgGrant, k, c)))
	tells(t, "the Grant", second, hear(0, coupled(api.MsgGrant, k, c)))
	tells(t, "Return", second, giveBack(k), to(0, coupled(api.MsgReturn, k, c)))
	tells(t, "Recall", first, recall(k), to(1, message(api.MsgRecall, k)))
	quiet(t, "the Recall", second, hear(0, message(api.MsgRecall, k)))
	tells(t, "the Return", first, hear(1, coupled(api.MsgReturn, k, c)))
	if o := own(t, first, k); o != (api.Own{Coupon: c, To: 1}) || first.Open(1) != 0 {
		t.Errorf("it is back: %v", o)
	}
	fails(t, "Recall of what is back", first, recall(k), api.ErrState)
}

// P16.1, P16.2: what is checked in is not handed back: the Recall is refused, and may be told again; what is open again comes back.
func TestRecallRefused(t *testing.T) {
	first, second, k := row(t)
	c := own(t, first, k).Coupon
	c.Nonce = 1
	tells(t, "a Want", first, hear(1, message(api.MsgWant, k)), to(1, coupled(api.MsgGrant, k, c)))
	tells(t, "the Grant", second, hear(0, coupled(api.MsgGrant, k, c)))
	h := held(t, second, k)
	for _, s := range statuses {
		h.Coupon.Status = s
		setHeld(t, second, k, h)
		tells(t, "Recall", first, recall(k), to(1, message(api.MsgRecall, k)))
		if s == api.Open {
			tells(t, "Return", second.Clone(), giveBack(k), to(0, coupled(api.MsgReturn, k, c)))
			tells(t, "the Refuse", first, hear(1, message(api.MsgRefuse, k)))
			continue
		}
		refuses(t, "the Recall", second, 0, message(api.MsgRecall, k), api.ErrState)
		fails(t, "Return", second, giveBack(k), api.ErrState)
		fails(t, "Recall again", first, recall(k), api.ErrState)
		tells(t, "the Refuse", first, hear(1, api.Message{Kind: api.MsgRefuse, Key: k, Code: api.ErrState}))
	}
	h.Coupon.Status = api.Open
	setHeld(t, second, k, h)
	tells(t, "Recall", first, recall(k), to(1, message(api.MsgRecall, k)))
	tells(t, "the Recall", second, hear(0, message(api.MsgRecall, k)), to(0, coupled(api.MsgReturn, k, c)))
	tells(t, "the Return", first, hear(1, coupled(api.MsgReturn, k, c)))
	if o := own(t, first, k); o.Away || o.Asked {
		t.Errorf("it is not back: %v", o)
	}
}
