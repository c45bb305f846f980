package msg_test

import (
	"fmt"
	"math"
	"reflect"
	"slices"
	"strconv"
	"strings"
	"testing"

	"tarmac/api"
	"tarmac/msg"
	"tarmac/number"
	"tarmac/wrap"
)

const most = api.MaxMoney

// kinds are the eight; statuses the seven.
var (
	kinds    = []uint8{api.MsgWant, api.MsgGrant, api.MsgRefuse, api.MsgRecall, api.MsgReturn, api.MsgBill, api.MsgAccept, api.MsgReject}
	statuses = []api.Status{api.Open, api.Checked, api.Boarded, api.Flown, api.Void, api.Refunded, api.Exchanged}
)

// Which kinds have a coupon, an amount, a code: the chapter's table.
var (
	withCoupon = []uint8{api.MsgGrant, api.MsgReturn}
	withAmount = []uint8{api.MsgBill, api.MsgAccept, api.MsgReject}
	withCode   = []uint8{api.MsgRefuse, api.MsgReject}
)

// numberOf is the number of the ticket of the key that the tests use.
const numberOf = "00100000000015"

// key is a coupon's; held is a coupon that may be told, of which no field is zero.
var (
	key  = api.Key{Ticket: api.Ticket{Carrier: 1, Serial: 1}, At: 2}
	held = api.Coupon{Leg: api.Leg{Carrier: 7, Flight: 100, Weight: 3}, Value: -50, Status: api.Checked, Nonce: 2}
)

// dice is a row of numbers that look thrown, the same at each run.
type dice uint64

func (d *dice) next() uint64 {
	*d = *d*6364136223846793005 + 1442695040888963407
	x := uint64(*d)
	return x ^ x>>29
}

// amount is one that may be, of any size, above or below 0.
func (d *dice) amount() int64 {
	n := int64(d.next() % (most + 1) >> (d.next() % 51))
	if d.next()%2 == 0 {
		return -n
	}
	return n
}

// packet is one that may be told, or an acknowledgement.
func (d *dice) packet() api.Packet {
	p := api.Packet{From: uint8(d.next() % api.MaxCarriers), To: uint8(d.next() % api.MaxCarriers), Number: d.next() >> (d.next() % 64)}
	if p.Ack = d.next()%9 == 0; p.Ack {
		return p
	}
	m := full(kinds[d.next()%8])
	m.Key = api.Key{Ticket: api.Ticket{Carrier: uint8(d.next() % api.MaxCarriers), Serial: 1 + d.next()%api.MaxSerial}, At: uint8(d.next() % api.MaxCoupons)}
	if m.Coupon.Status > 0 {
		leg := api.Leg{Carrier: uint8(d.next() % api.MaxCarriers), Flight: uint16(d.next()), Weight: uint32(d.next())}
		m.Coupon = api.Coupon{Leg: leg, Value: d.amount(), Status: statuses[d.next()%7], Nonce: uint32(d.next())}
	}
	if m.Amount != 0 {
		m.Amount = d.amount()
	}
	if m.Code != 0 {
		m.Code = api.Errno(d.next() % 1000)
	}
	p.Message = m
	return p
}

// full is a message of the kind with all the fields that the kind has, none of them zero.
func full(kind uint8) api.Message {
	m := api.Message{Kind: kind, Key: key}
	if slices.Contains(withCoupon, kind) {
		m.Coupon = held
	}
	if slices.Contains(withAmount, kind) {
		m.Amount = -5
	}
	if slices.Contains(withCode, kind) {
		m.Code = 6
	}
	return m
}

// seg is a segment of elements of one component each.
func seg(tag string, elems ...string) api.Segment {
	s := api.Segment{Tag: tag}
	for _, x := range elems {
		s.Elems = append(s.Elems, []string{x})
	}
	return s
}

// behind are the segments of a full message behind its kind and its key.
func behind(kind uint8) []api.Segment {
	var l []api.Segment
	if slices.Contains(withCoupon, kind) {
		l = append(l, seg("CPN", "7", "100", "3", "-50", "2", "2"))
	}
	if slices.Contains(withAmount, kind) {
		l = append(l, seg("AMT", "-5"))
	}
	if slices.Contains(withCode, kind) {
		l = append(l, seg("COD", "6"))
	}
	return l
}

// segments are those of a full message.
func segments(kind uint8) []api.Segment {
	return append([]api.Segment{seg("MSG", strconv.Itoa(int(kind))), seg("KEY", numberOf, "2")}, behind(kind)...)
}

// from1 is a packet from 1 to 2 with the number 7.
func from1(m api.Message) api.Packet {
	return api.Packet{From: 1, To: 2, Number: 7, Message: m}
}

// wrapped is an interchange from 1 to 2 with the Ref 7.
func wrapped(segs ...api.Segment) api.Wrap {
	return api.Wrap{From: 1, To: 2, Ref: 7, Segs: segs}
}

// shown is an interchange, cut down to what can be looked at.
func shown(w api.Wrap) string {
	text := fmt.Sprint(w)
	return text[:min(len(text), 200)]
}

// same tells whether two interchanges are alike; nil and empty lists are.
func same(a, b api.Wrap) bool {
	return a.From == b.From && a.To == b.To && a.Ref == b.Ref && slices.EqualFunc(a.Segs, b.Segs, func(x, y api.Segment) bool {
		return x.Tag == y.Tag && slices.EqualFunc(x.Elems, y.Elems, slices.Equal[[]string])
	})
}

// wraps fails unless the packet is told by the interchange, and the interchange tells the packet.
func wraps(t *testing.T, p api.Packet, want api.Wrap) {
	t.Helper()
	if w, e := msg.Wrap(p); e != api.OK || !same(w, want) {
		t.Errorf("Wrap(%v) = %s, %v; want %s", p, shown(w), e, shown(want))
	}
	if again, e := msg.Packet(want); e != api.OK || again != p {
		t.Errorf("Packet(%s) = %v, %v; want %v", shown(want), again, e, p)
	}
}

// told fails unless the packet may be told: as what is read as the same again.
func told(t *testing.T, p api.Packet) {
	t.Helper()
	w, e := msg.Wrap(p)
	if e != api.OK {
		t.Errorf("Wrap(%v): %v", p, e)
		return
	}
	wraps(t, p, w)
	text, e := msg.Text(p)
	if e != api.OK {
		t.Errorf("Text(%v): %v", p, e)
	}
	if again, e := msg.Parse(text); e != api.OK || again != p {
		t.Errorf("Parse(%q) = %v, %v; want %v", text, again, e, p)
	}
}

// untold fails unless the packet is refused by the error, as an interchange and as a text, with nothing beside it.
func untold(t *testing.T, p api.Packet, want api.Errno) {
	t.Helper()
	if w, e := msg.Wrap(p); e != want || !same(w, api.Wrap{}) {
		t.Errorf("Wrap(%v) = %s, %v; want %v", p, shown(w), e, want)
	}
	if text, e := msg.Text(p); e != want || text != "" {
		t.Errorf("Text(%v) = %q, %v; want %v", p, text, e, want)
	}
}

// unread fails unless the interchange is refused by the error, with nothing beside it.
func unread(t *testing.T, want api.Errno, w api.Wrap) {
	t.Helper()
	if p, e := msg.Packet(w); e != want || p != (api.Packet{}) {
		t.Errorf("Packet(%s) = %v, %v; want %v", shown(w), p, e, want)
	}
}

// unparsed fails unless the text is refused by the error, with nothing beside it.
func unparsed(t *testing.T, text string, want api.Errno) {
	t.Helper()
	if p, e := msg.Parse(text); e != want || p != (api.Packet{}) {
		t.Errorf("Parse(%q) = %v, %v; want %v", text, p, e, want)
	}
}

// P10.1 to P10.3: the document's examples.
func TestExamples(t *testing.T) {
	want := from1(api.Message{Kind: api.MsgWant, Key: api.Key{Ticket: api.Ticket{Carrier: 1, Serial: 1}}})
	ack := api.Packet{From: 2, To: 1, Ack: true, Number: 7}
	for _, x := range []struct {
		p    api.Packet
		text string
	}{{want, "UNB+1+2+7'MSG+1'KEY+00100000000015+0'UNZ+2+7'"}, {ack, "UNB+2+1+7'ACK'UNZ+1+7'"}} {
		if text, e := msg.Text(x.p); e != api.OK || text != x.text {
			t.Errorf("Text(%v) = %q, %v; want %q", x.p, text, e, x.text)
		}
		if p, e := msg.Parse(x.text); e != api.OK || p != x.p {
			t.Errorf("Parse(%q) = %v, %v; want %v", x.text, p, e, x.p)
		}
	}
	unparsed(t, "UNB+1+2+7'MSG+9'UNZ+1+7'", api.ErrKind)
	unparsed(t, "UNB+1+2+7'MSG+1'UNZ+1+7'", api.ErrField)
	want.Message.Amount = 1
	untold(t, want, api.ErrField)
}

// P10.1, P10.2: the interchange of each kind, written out, and of an Ack.
func TestInterchanges(t *testing.T) {
	kind, of := "MSG", seg("KEY", numberOf, "2")
	coupon, amount, code := seg("CPN", "7", "100", "3", "-50", "2", "2"), seg("AMT", "-5"), seg("COD", "6")
	for _, x := range []struct {
		m    api.Message
		want api.Wrap
	}{
		{api.Message{Kind: 1, Key: key}, wrapped(seg(kind, "1"), of)},
		{api.Message{Kind: 2, Key: key, Coupon: held}, wrapped(seg(kind, "2"), of, coupon)},
		{api.Message{Kind: 3, Key: key, Code: 6}, wrapped(seg(kind, "3"), of, code)},
		{api.Message{Kind: 4, Key: key}, wrapped(seg(kind, "4"), of)},
		{api.Message{Kind: 5, Key: key, Coupon: held}, wrapped(seg(kind, "5"), of, coupon)},
		{api.Message{Kind: 6, Key: key, Amount: -5}, wrapped(seg(kind, "6"), of, amount)},
		{api.Message{Kind: 7, Key: key, Amount: -5}, wrapped(seg(kind, "7"), of, amount)},
		{api.Message{Kind: 8, Key: key, Amount: -5, Code: 6}, wrapped(seg(kind, "8"), of, amount, code)},
	} {
		wraps(t, from1(x.m), x.want)
		told(t, from1(x.m))
	}
	wraps(t, api.Packet{From: 1, To: 2, Ack: true, Number: 7}, wrapped(seg("ACK")))
	wraps(t, api.Packet{From: 1, To: 2, Ack: true, Number: 7}, wrapped(api.Segment{Tag: "ACK", Elems: [][]string{}}))
}

// P10.1, P10.2: each carrier; those that are none are ErrArg, ahead of all else.
func TestCarriers(t *testing.T) {
	for c := range 256 {
		for _, ack := range []bool{false, true} {
			there, here := from1(full(api.MsgWant)), from1(full(api.MsgWant))
			if ack {
				there, here = api.Packet{Ack: true}, api.Packet{Ack: true}
			}
			there.To, here.From = uint8(c), uint8(c)
			if c < api.MaxCarriers {
				told(t, there)
				told(t, here)
				continue
			}
			untold(t, there, api.ErrArg)
			untold(t, here, api.ErrArg)
		}
	}
	for c := api.MaxCarriers; c < 256; c++ {
		for _, segs := range [][]api.Segment{segments(api.MsgWant), {seg("ACK")}, nil, {seg("MSG", "9")}, {seg("ACK"), seg("ACK")}, {seg("MSG", "1"), seg("KEY", "", "0")}} {
			unread(t, api.ErrArg, api.Wrap{From: uint8(c), Segs: segs})
			unread(t, api.ErrArg, api.Wrap{To: uint8(c), Segs: segs})
		}
	}
}

// P10.1, P10.2: numbers, and each of them an Ack's too.
func TestNumbers(t *testing.T) {
	for _, n := range []uint64{0, 1, 9, 10, math.MaxInt64, math.MaxInt64 + 1, math.MaxUint64} {
		told(t, api.Packet{Ack: true, Number: n})
		told(t, api.Packet{Number: n, Message: full(api.MsgReject)})
		wraps(t, api.Packet{Ack: true, Number: n}, api.Wrap{Ref: n, Segs: []api.Segment{seg("ACK")}})
	}
}

// P10.1: an Ack with anything in its message.
func TestAckWithMessage(t *testing.T) {
	for _, m := range []api.Message{
		{Kind: api.MsgWant}, {Kind: 9}, {Kind: 255},
		{Key: api.Key{At: 1}}, {Key: api.Key{At: 255}}, {Key: api.Key{Ticket: api.Ticket{Carrier: 1}}}, {Key: api.Key{Ticket: api.Ticket{Serial: 1}}},
		{Coupon: api.Coupon{Leg: api.Leg{Carrier: 1}}}, {Coupon: api.Coupon{Leg: api.Leg{Flight: 1}}}, {Coupon: api.Coupon{Leg: api.Leg{Weight: 1}}},
		{Coupon: api.Coupon{Value: -1}}, {Coupon: api.Coupon{Status: 1}}, {Coupon: api.Coupon{Nonce: 1}},
		{Amount: 1}, {Amount: -1}, {Amount: math.MinInt64}, {Code: 1}, {Code: -1},
		full(api.MsgWant), full(api.MsgReject),
	} {
		p := from1(m)
		p.Ack = true
		untold(t, p, api.ErrField)
		p.From = api.MaxCarriers
		untold(t, p, api.ErrArg)
	}
}

// P10.1, P10.2: each kind; those that are none are ErrKind, behind ErrArg and ahead of all else.
func TestKinds(t *testing.T) {
	for k := range 256 {
		if k >= 1 && k <= 8 {
			told(t, from1(full(uint8(k))))
			continue
		}
		for _, m := range []api.Message{full(api.MsgWant), full(api.MsgGrant), full(api.MsgReject), {}, {Key: api.Key{At: 9}}, {Amount: math.MaxInt64, Code: -1}} {
			m.Kind = uint8(k)
			untold(t, from1(m), api.ErrKind)
			untold(t, api.Packet{To: 8, Message: m}, api.ErrArg)
		}
		for _, l := range [][]api.Segment{nil, segments(api.MsgWant)[1:], {seg("ACK")}, {seg("KEY", "", "")}} {
			unread(t, api.ErrKind, wrapped(append([]api.Segment{seg("MSG", strconv.Itoa(k))}, l...)...))
		}
	}
	unparsed(t, "UNB+1+2+7'UNZ+0+7'", api.ErrKind)
}

// P10.1: the ticket's error, behind ErrKind and ahead of ErrField.
func TestTickets(t *testing.T) {
	for _, kind := range kinds {
		for _, ticket := range []api.Ticket{{Serial: 1}, {Carrier: 7, Serial: 1}, {Serial: api.MaxSerial}, {Carrier: 7, Serial: api.MaxSerial}} {
			m := full(kind)
			m.Key.Ticket = ticket
			told(t, from1(m))
		}
		for _, ticket := range []api.Ticket{{}, {Carrier: 1}, {Carrier: 8, Serial: 1}, {Carrier: 255, Serial: 1}, {Serial: api.MaxSerial + 1}, {Serial: math.MaxUint64}} {
			m := full(kind)
			m.Key.Ticket = ticket
			untold(t, from1(m), api.ErrArg)
			m.Key.At = api.MaxCoupons
			untold(t, from1(m), api.ErrArg)
			m.Key.At, m.Amount, m.Code = 0, math.MaxInt64, -1
			untold(t, from1(m), api.ErrArg)
			m.Kind = 0
			untold(t, from1(m), api.ErrKind)
		}
	}
}

// P10.1, P10.2: each place of a coupon.
func TestPlaces(t *testing.T) {
	for at := range 256 {
		for _, kind := range kinds {
			m := full(kind)
			m.Key.At = uint8(at)
			if at < api.MaxCoupons {
				told(t, from1(m))
				continue
			}
			untold(t, from1(m), api.ErrField)
		}
		if at >= api.MaxCoupons {
			unread(t, api.ErrField, wrapped(seg("MSG", "1"), seg("KEY", numberOf, strconv.Itoa(at))))
		}
	}
}

// P10.1: of each kind each field that it has at both its edges and beyond them, and each that it has not.
func TestFields(t *testing.T) {
	for _, kind := range kinds {
		for _, n := range []int64{0, 1, -1, most - 1, most, 1 - most, -most, most + 1, -most - 1, math.MaxInt64, math.MinInt64} {
			m := full(kind)
			m.Amount = n
			tells(t, m, n == 0 || slices.Contains(withAmount, kind) && n >= -most && n <= most)
		}
		for _, n := range []api.Errno{0, 1, 998, 999, 1000, -1, 256, 65536, 1 << 32, math.MaxInt, math.MinInt} {
			m := full(kind)
			m.Code = n
			tells(t, m, n == 0 || slices.Contains(withCode, kind) && n >= 0 && n <= 999)
		}
		has := slices.Contains(withCoupon, kind)
		for _, turn := range couponsThatMayBe() {
			m := full(kind)
			turn(&m.Coupon)
			tells(t, m, has)
		}
		for _, turn := range couponsThatMayNot() {
			m := full(kind)
			turn(&m.Coupon)
			tells(t, m, false)
		}
		m := full(kind)
		m.Coupon = api.Coupon{}
		tells(t, m, !has)
	}
}

// tells fails unless a message may be told, or may not.
func tells(t *testing.T, m api.Message, may bool) {
	t.Helper()
	if may {
		told(t, from1(m))
		return
	}
	untold(t, from1(m), api.ErrField)
}

// couponsThatMayBe turn a coupon that may be told into another one that may.
func couponsThatMayBe() []func(c *api.Coupon) {
	l := []func(c *api.Coupon){
		func(c *api.Coupon) { *c = api.Coupon{Status: api.Open} },
		func(c *api.Coupon) { *c = held; c.Leg.Carrier = 0 },
		func(c *api.Coupon) { *c = held; c.Leg.Carrier = api.MaxCarriers - 1 },
		func(c *api.Coupon) { *c = held; c.Leg.Flight = 0 },
		func(c *api.Coupon) { *c = held; c.Leg.Flight = math.MaxUint16 },
		func(c *api.Coupon) { *c = held; c.Leg.Weight = 0 },
		func(c *api.Coupon) { *c = held; c.Leg.Weight = math.MaxUint32 },
		func(c *api.Coupon) { *c = held; c.Value = 0 },
		func(c *api.Coupon) { *c = held; c.Value = most },
		func(c *api.Coupon) { *c = held; c.Value = -most },
		func(c *api.Coupon) { *c = held; c.Nonce = 0 },
		func(c *api.Coupon) { *c = held; c.Nonce = math.MaxUint32 },
	}
	for _, s := range statuses {
		l = append(l, func(c *api.Coupon) { *c = held; c.Status = s })
	}
	return l
}

// couponsThatMayNot turn a coupon into one that may not be told: of one field, or of a kind that has none.
func couponsThatMayNot() []func(c *api.Coupon) {
	l := []func(c *api.Coupon){
		func(c *api.Coupon) { *c = held; c.Status = 0 },
		func(c *api.Coupon) { *c = api.Coupon{Nonce: 1} },
		func(c *api.Coupon) { *c = held; c.Leg.Carrier = api.MaxCarriers },
		func(c *api.Coupon) { *c = held; c.Leg.Carrier = 255 },
		func(c *api.Coupon) { *c = held; c.Value = most + 1 },
		func(c *api.Coupon) { *c = held; c.Value = -most - 1 },
		func(c *api.Coupon) { *c = held; c.Value = math.MaxInt64 },
		func(c *api.Coupon) { *c = held; c.Value = math.MinInt64 },
	}
	for s := 8; s < 256; s++ {
		l = append(l, func(c *api.Coupon) { *c = held; c.Status = api.Status(s) })
	}
	return l
}

// P10.2: first segments that are neither an Ack nor a message's, whatever is behind them.
func TestFirstSegment(t *testing.T) {
	firsts := []api.Segment{
		{}, seg(""), seg("ack"), seg("ACK", "1"), seg("ACK", ""), seg("ACK", "1", "2"), {Tag: "ACK", Elems: [][]string{nil}}, seg("AC"), seg("ACKK"), seg("KEY"),
		seg("MSG"), seg("MSG", "1", "1"), seg("MSG", "1", ""), seg("MSG", ""), seg("msg", "1"), seg("MSG1", "1"), seg("", "1"), seg("KEY", "1"), seg("CPN", "1"), seg("ACK", "MSG"),
		{Tag: "MSG", Elems: [][]string{nil}}, {Tag: "MSG", Elems: [][]string{{}}}, {Tag: "MSG", Elems: [][]string{{"1", "1"}}}, {Tag: "MSG", Elems: [][]string{{"1", ""}}},
		{Tag: "MSG", Elems: [][]string{{"1"}, nil}}, {Tag: "MSG", Elems: [][]string{nil, {"1"}}},
	}
	for _, text := range noNumbers("1") {
		firsts = append(firsts, seg("MSG", text))
	}
	for _, text := range []string{"-1", "0", "9", "10", "257", "264", "65537", "4294967297", "18446744073709551617"} {
		firsts = append(firsts, seg("MSG", text))
	}
	for _, first := range firsts {
		unread(t, api.ErrKind, wrapped(first))
		unread(t, api.ErrKind, wrapped(first, seg("KEY", numberOf, "0")))
		unread(t, api.ErrKind, wrapped(first, seg("KEY", "", "0"), seg("XXX")))
		unread(t, api.ErrKind, wrapped(first, seg("ACK")))
	}
	unread(t, api.ErrKind, wrapped())
	unread(t, api.ErrKind, api.Wrap{Segs: []api.Segment{}})
}

// noNumbers are texts that are neither numbers nor signed ones, though they are near one that is.
func noNumbers(text string) []string {
	l := []string{"", "--" + text, "-+" + text, "0" + text, "00", "-0", "-00", "-0" + text, text + "_1", "1_" + text, "0x" + text, text + "e1", text + ".0", "٣", strings.Repeat("9", 300), strings.Repeat("0", 300)}
	for c := range 256 {
		if c < '0' || c > '9' {
			sign := string([]byte{byte(c)})
			l = append(l, sign, sign+text, text+sign)
		}
	}
	return slices.DeleteFunc(l, func(s string) bool { return s == "-"+text })
}

// P10.2: an Ack that is not alone.
func TestAckNotAlone(t *testing.T) {
	for _, l := range [][]api.Segment{{seg("ACK")}, {{}}, segments(api.MsgWant), {seg("KEY", numberOf, "0")}, {seg("ACK"), seg("ACK")}} {
		unread(t, api.ErrField, wrapped(append([]api.Segment{seg("ACK")}, l...)...))
	}
	unparsed(t, "UNB+1+2+7'ACK'ACK'UNZ+2+7'", api.ErrField)
}

// P10.2: second segments that are no key's, of each kind.
func TestSecondSegment(t *testing.T) {
	for _, kind := range kinds {
		first := seg("MSG", strconv.Itoa(int(kind)))
		unread(t, api.ErrField, wrapped(first))
		for _, second := range []api.Segment{
			{}, seg("KEY"), seg("KEY", numberOf), seg("KEY", numberOf, "2", "2"), seg("KEY", "", "2", ""), seg("KEY", ""), seg("key", numberOf, "2"), seg("KEYS", numberOf, "2"), seg("", numberOf, "2"), seg("MSG", numberOf, "2"), seg("CPN", "", "2"),
			{Tag: "KEY", Elems: [][]string{{numberOf}, nil}}, {Tag: "KEY", Elems: [][]string{nil, {"2"}}}, {Tag: "KEY", Elems: [][]string{{numberOf, ""}, {"2"}}},
			{Tag: "KEY", Elems: [][]string{{numberOf}, {"2", ""}}}, {Tag: "KEY", Elems: [][]string{{""}, {"2", "2"}}}, {Tag: "KEY", Elems: [][]string{{"x"}, {}}}, {Tag: "KEY", Elems: [][]string{{numberOf, "2"}}},
		} {
			unread(t, api.ErrField, wrapped(append([]api.Segment{first, second}, behind(kind)...)...))
		}
		unread(t, api.ErrField, wrapped(append([]api.Segment{first}, behind(kind)...)...))
		if l := behind(kind); len(l) > 0 {
			unread(t, api.ErrField, wrapped(slices.Concat([]api.Segment{first}, l, []api.Segment{seg("KEY", numberOf, "2")})...))
		}
	}
}

// P10.2: each of number's errors, ahead of what is wrong behind it, and behind what is wrong ahead of it.
func TestTicketsNumber(t *testing.T) {
	for text, want := range map[string]api.Errno{
		"": api.ErrShape, "0010000000001": api.ErrShape, "001000000000150": api.ErrShape, "0010000000001x": api.ErrShape, " 0100000000015": api.ErrShape, "-0100000000015": api.ErrShape,
		"00100000000016": api.ErrCheck, "00100000000014": api.ErrCheck, "80100000000015": api.ErrCheck,
		"00100000000004": api.ErrArg, "00800000000015": api.ErrArg, "00000000000000": api.ErrArg,
	} {
		if _, e := number.Parse(text); e != want {
			t.Errorf("number.Parse(%q): %v; want %v", text, e, want)
		}
		for _, kind := range kinds {
			first := seg("MSG", strconv.Itoa(int(kind)))
			for _, at := range []string{"2", "4", "", "x", "-1", "02"} {
				unread(t, want, wrapped(append([]api.Segment{first, seg("KEY", text, at)}, behind(kind)...)...))
			}
			unread(t, want, wrapped(first, seg("KEY", text, "0"), seg("XXX")))
			unread(t, api.ErrField, wrapped(first, seg("KEY", text, "0", "0")))
			unread(t, api.ErrField, wrapped(first, seg("KEX", text, "0")))
			unread(t, api.ErrKind, wrapped(seg("MSG", "0"), seg("KEY", text, "0")))
		}
	}
}

// P10.2: segments behind the key that are missing, more, of other tags, in another order.
func TestSegmentsBehind(t *testing.T) {
	all := []api.Segment{seg("CPN", "7", "100", "3", "-50", "2", "2"), seg("AMT", "-5"), seg("COD", "6"), seg("ACK"), seg("XXX"), {}, seg("KEY", numberOf, "2"), seg("MSG", "1")}
	for _, kind := range kinds {
		l := segments(kind)
		for i := 2; i <= len(l); i++ {
			for _, more := range all {
				unread(t, api.ErrField, wrapped(slices.Insert(slices.Clone(l), i, more)...))
			}
		}
		for i := 1; i < len(l); i++ {
			unread(t, api.ErrField, wrapped(slices.Delete(slices.Clone(l), i, i+1)...))
			unread(t, api.ErrField, wrapped(l[:i]...))
			for _, tag := range []string{"", "XXX", "cpn", "amt", "CPN ", "AMT1", "CO", "ACK", "MSG"} {
				other := slices.Clone(l)
				other[i].Tag = tag
				unread(t, api.ErrField, wrapped(other...))
			}
		}
	}
	amount, code := seg("AMT", "-5"), seg("COD", "6")
	unread(t, api.ErrField, wrapped(seg("MSG", "8"), seg("KEY", numberOf, "2"), code, amount))
	unread(t, api.ErrField, wrapped(seg("MSG", "8"), seg("KEY", numberOf, "2"), seg("COD", "6"), seg("COD", "6")))
	unread(t, api.ErrField, wrapped(seg("MSG", "8"), seg("KEY", numberOf, "2"), seg("AMT", "6"), seg("AMT", "6")))
	for _, n := range []int{60, 1000} {
		unread(t, api.ErrField, wrapped(append(segments(api.MsgBill), slices.Repeat([]api.Segment{amount}, n)...)...))
	}
}

// P10.2: other counts of elements and components in the segments behind the key.
func TestElementsBehind(t *testing.T) {
	for _, kind := range kinds {
		l := segments(kind)
		for i := 2; i < len(l); i++ {
			with := func(elems [][]string) api.Wrap {
				other := slices.Clone(l)
				other[i].Elems = elems
				return wrapped(other...)
			}
			elems := l[i].Elems
			unread(t, api.ErrField, with(nil))
			unread(t, api.ErrField, with([][]string{slices.Concat(elems...), {}}))
			for j := range len(elems) + 1 {
				for _, more := range [][]string{nil, {""}, {"0"}, {"1"}, {"1", "1"}} {
					unread(t, api.ErrField, with(slices.Insert(slices.Clone(elems), j, more)))
				}
			}
			for j := range elems {
				unread(t, api.ErrField, with(slices.Delete(slices.Clone(elems), j, j+1)))
				for _, comps := range [][]string{nil, {}, {elems[j][0], ""}, {elems[j][0], elems[j][0]}, {"", elems[j][0]}} {
					other := slices.Clone(elems)
					other[j] = comps
					unread(t, api.ErrField, with(other))
				}
			}
		}
	}
}

// bounds are those of a message's numbers: the segment, the element, from what to what.
func bounds() []struct {
	kind        uint8
	seg, elem   int
	least, most int64
} {
	return []struct {
		kind        uint8
		seg, elem   int
		least, most int64
	}{
		{api.MsgWant, 1, 1, 0, 3},
		{api.MsgReject, 1, 1, 0, 3},
		{api.MsgGrant, 2, 0, 0, 7},
		{api.MsgGrant, 2, 1, 0, 65535},
		{api.MsgGrant, 2, 2, 0, 4294967295},
		{api.MsgGrant, 2, 3, -most, most},
		{api.MsgReturn, 2, 4, 1, 7},
		{api.MsgReturn, 2, 5, 0, 4294967295},
		{api.MsgBill, 2, 0, -most, most},
		{api.MsgAccept, 2, 0, -most, most},
		{api.MsgReject, 2, 0, -most, most},
		{api.MsgReject, 3, 0, 0, 999},
		{api.MsgRefuse, 2, 0, 0, 999},
	}
}

// P10.2: each number at both its edges and beyond them, those that go round to one that may be, and texts that are none.
func TestNumbersOfFields(t *testing.T) {
	for _, x := range bounds() {
		with := func(text string) api.Wrap {
			l := segments(x.kind)
			l[x.seg].Elems[x.elem] = []string{text}
			return wrapped(l...)
		}
		for _, n := range []int64{0, 1, -1, 2, 3, 4, 7, 8, 255, 256, 257, 999, 1000, 65535, 65536, 65537, 4294967295, 4294967296, 4294967297, most - 1, most, most + 1, 1 - most, -most, -most - 1, math.MaxInt64, math.MinInt64, math.MinInt64 + 1} {
			text := strconv.FormatInt(n, 10)
			if n < x.least || n > x.most {
				unread(t, api.ErrField, with(text))
				continue
			}
			p, e := msg.Packet(with(text))
			if e != api.OK {
				t.Errorf("Packet(%v): %v", with(text), e)
			}
			wraps(t, p, with(text))
		}
		for _, text := range noNumbers("2") {
			unread(t, api.ErrField, with(text))
		}
		for _, text := range []string{"9223372036854775808", "-9223372036854775809", "18446744073709551615", "18446744073709551616", "18446744073709551617", "-18446744073709551614", "340282366920938463463374607431768211457"} {
			unread(t, api.ErrField, with(text))
		}
	}
}

// P10.3: the text is what wrap prints, and is told with wrap's errors.
func TestTexts(t *testing.T) {
	var d dice
	for range 2000 {
		p := d.packet()
		w, _ := msg.Wrap(p)
		want, _ := wrap.Print(w)
		if text, e := msg.Text(p); e != api.OK || text != want || text == "" {
			t.Errorf("Text(%v) = %q, %v; want %q", p, text, e, want)
		}
	}
	for text, want := range map[string]api.Errno{
		"":                                    api.ErrHead,
		"UNB+1+2+7'ACK'UNZ+1+7":               api.ErrEnd,
		"UNB+1+2+7'ack'UNZ+1+7'":              api.ErrSign,
		"\nUNB+1+2+7'ACK'UNZ+1+7'":            api.ErrSign,
		"UNB+8+2+7'ACK'UNZ+1+7'":              api.ErrHead,
		"UNB+1+8+7'MSG+9'UNZ+1+7'":            api.ErrHead,
		"UNB+1+2+7'ACK'UNZ+2+7'":              api.ErrCount,
		"UNB+1+2+7'MSG+9'UNZ+0+8'":            api.ErrCount,
		"UNB+1+2+7'MSG+9'UNZ+1+8'":            api.ErrRef,
		"UNB+1+2+7'ACK+'UNZ+1+7'":             api.ErrKind,
		"UNB+1+2+7'MSG+1:1'UNZ+1+7'":          api.ErrKind,
		"UNB+1+2+7'MSG+?+1'UNZ+1+7'":          api.ErrKind,
		"UNB+1+2+7'" + many(63) + "UNZ+63+7'": api.ErrLong,
		"UNB+1+2+7'" + many(62) + "UNZ+62+7'": api.ErrField,
		strings.Repeat(" ", api.MaxBytes+1):   api.ErrLong,
	} {
		unparsed(t, text, want)
	}
}

// many is so many Acks.
func many(n int) string { return strings.Repeat("ACK'", n) }

// P10.4: packets of any size are told as texts that are read as they were; bytes 10 behind segments say nothing.
func TestPacketsAreTexts(t *testing.T) {
	var d dice = 1
	for range 5000 {
		p := d.packet()
		told(t, p)
		text, _ := msg.Text(p)
		if again, e := msg.Parse(strings.ReplaceAll(text, "'", "'\n")); e != api.OK || again != p {
			t.Errorf("Parse(%q with bytes 10) = %v, %v; want %v", text, again, e, p)
		}
	}
}

// P10.4: whatever byte stands at whatever place of a text, and whatever is cut out of it: what is read is told as that text.
func TestTextsArePackets(t *testing.T) {
	texts := []string{"UNB+2+1+7'ACK'UNZ+1+7'"}
	for _, kind := range kinds {
		text, e := msg.Text(from1(full(kind)))
		if e != api.OK {
			t.Fatalf("Text of the kind %d: %v", kind, e)
		}
		texts = append(texts, text)
	}
	for _, text := range texts {
		for at := range len(text) {
			for c := range 256 {
				again(t, text[:at]+string([]byte{byte(c)})+text[at+1:])
				again(t, text[:at]+string([]byte{byte(c)})+text[at:])
			}
			for to := at; to <= len(text); to++ {
				again(t, text[:at]+text[to:])
			}
		}
	}
}

// again fails unless the text is refused, with nothing beside the error, or what it tells is told by it, without its bytes 10.
func again(t *testing.T, text string) {
	t.Helper()
	p, e := msg.Parse(text)
	if e != api.OK {
		unparsed(t, text, e)
		return
	}
	if back, e := msg.Text(p); e != api.OK || back != strings.ReplaceAll(text, "\n", "") {
		t.Errorf("Text(Parse(%q)) = %q, %v", text, back, e)
	}
}

// P10.2 and R3: what is handed in is not changed, nor kept.
func TestInterchangeIsLeft(t *testing.T) {
	for _, kind := range kinds {
		w, before := wrapped(segments(kind)...), wrapped(segments(kind)...)
		p, _ := msg.Packet(w)
		if !reflect.DeepEqual(w, before) {
			t.Errorf("Packet left %v of %v", w, before)
		}
		each(w, func(_ *api.Segment, comps *[]string) { (*comps)[0] = "9" })
		if again, _ := msg.Packet(before); again != p {
			t.Errorf("Packet = %v; was %v", again, p)
		}
	}
}

// P10.1 and R3: each list of an answer is its own, spare room too, and no later answer shows what is written there.
func TestAnswersShareNothing(t *testing.T) {
	for _, p := range []api.Packet{from1(full(api.MsgGrant)), from1(full(api.MsgReject)), from1(full(api.MsgWant)), {Ack: true}} {
		want, _ := msg.Wrap(p)
		w, _ := msg.Wrap(p)
		each(w, func(s *api.Segment, comps *[]string) {
			_, _, _ = append(w.Segs, seg("XXX")), append(s.Elems, []string{"more"}), append(*comps, "more")
		})
		if !same(w, want) {
			t.Errorf("Wrap(%v) = %s, when its lists' spare room is written; want %s", p, shown(w), shown(want))
		}
		count, read := 0, 0
		each(w, func(_ *api.Segment, comps *[]string) { (*comps)[0] = strconv.Itoa(count); count++ })
		each(w, func(_ *api.Segment, comps *[]string) {
			if (*comps)[0] != strconv.Itoa(read) {
				t.Errorf("Wrap(%v): component %d shows what was written into another one: %s", p, read, shown(w))
			}
			read++
		})
		if again, e := msg.Wrap(p); e != api.OK || !same(again, want) {
			t.Errorf("Wrap(%v) = %s, %v, when an answer was written; want %s", p, shown(again), e, shown(want))
		}
	}
}

// each calls do with each element of an interchange, and its segment.
func each(w api.Wrap, do func(s *api.Segment, comps *[]string)) {
	for i := range w.Segs {
		for j := range w.Segs[i].Elems {
			do(&w.Segs[i], &w.Segs[i].Elems[j])
		}
	}
}
