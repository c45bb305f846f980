package codec_test

import (
	"bytes"
	"encoding/binary"
	"reflect"
	"slices"
	"strings"
	"testing"

	"tarmac/api"
	"tarmac/codec"
)

// textAs are a text's bytes as the chapter tells them.
func textAs(b []byte, s string) []byte {
	b = append(b, byte(len(s)))
	return append(b, s...)
}

// ticketAs are a ticket's bytes as the chapter tells them, behind others; so it goes on below.
func ticketAs(b []byte, t api.Ticket) []byte {
	return binary.BigEndian.AppendUint64(append(b, t.Carrier), t.Serial)
}

func legAs(b []byte, l api.Leg) []byte {
	b = binary.BigEndian.AppendUint16(append(b, l.Carrier), l.Flight)
	return binary.BigEndian.AppendUint32(b, l.Weight)
}

func amountAs(b []byte, n int64) []byte {
	return binary.BigEndian.AppendUint64(b, uint64(n))
}

func commandAs(b []byte, c api.Command) []byte {
	b = ticketAs(append(b, c.Kind), c.Ticket)
	b = amountAs(append(b, c.At), c.Amount)
	b = textAs(b, c.Sale.Name)
	b = append(b, byte(len(c.Sale.Legs)))
	for _, l := range c.Sale.Legs {
		b = legAs(b, l)
	}
	b = amountAs(b, c.Sale.Fare)
	b = append(b, byte(len(c.Sale.Taxes)))
	for _, x := range c.Sale.Taxes {
		b = amountAs(textAs(b, x.Code), x.Amount)
	}
	return amountAs(b, c.Sale.Penalty)
}

func messageAs(b []byte, m api.Message) []byte {
	b = ticketAs(append(b, m.Kind), m.Key.Ticket)
	b = legAs(append(b, m.Key.At), m.Coupon.Leg)
	b = amountAs(b, m.Coupon.Value)
	b = binary.BigEndian.AppendUint32(append(b, byte(m.Coupon.Status)), m.Coupon.Nonce)
	b = amountAs(b, m.Amount)
	return amountAs(b, int64(m.Code))
}

// recordAs are a record's bytes as the chapter tells them.
func recordAs(r api.Record) []byte {
	b := []byte{r.Kind}
	if r.Kind == api.RecCommand {
		return commandAs(b, r.Command)
	}
	b = binary.BigEndian.AppendUint64(append(b, r.From), r.Number)
	if r.Kind == api.RecPacket {
		b = messageAs(b, r.Message)
	}
	return b
}

// same tells whether these are the same records; an empty list is as good as none.
func same(a, b api.Record) bool {
	x, y := a.Command.Sale, b.Command.Sale
	a.Command.Sale, b.Command.Sale = api.Sale{}, api.Sale{}
	return reflect.DeepEqual(a, b) && x.Name == y.Name && x.Fare == y.Fare && x.Penalty == y.Penalty &&
		slices.Equal(x.Legs, y.Legs) && slices.Equal(x.Taxes, y.Taxes)
}

// laid are the record's bytes, which must be as the chapter tells them, and read as the same record.
func laid(t *testing.T, r api.Record) []byte {
	t.Helper()
	b, e := codec.Put(r)
	if e != api.OK || !bytes.Equal(b, recordAs(r)) {
		t.Fatalf("Put(%#v): %x, %v; want %x", r, b, e, recordAs(r))
	}
	got, e := codec.Get(b)
	if e != api.OK || !same(got, r) {
		t.Fatalf("Get(%x): %#v, %v; want %#v", b, got, e, r)
	}
	return b
}

// unlaid fails unless Put refuses the record with the error, and with nothing beside it.
func unlaid(t *testing.T, what string, r api.Record, want api.Errno) {
	t.Helper()
	if b, e := codec.Put(r); e != want || b != nil {
		t.Errorf("Put of %s: %d bytes, %v; want none, %v", what, len(b), e, want)
	}
}

// unread fails unless Get refuses the bytes, with nothing beside the error.
func unread(t *testing.T, what string, b []byte) {
	t.Helper()
	if r, e := codec.Get(b); e != api.ErrRecord || !reflect.DeepEqual(r, api.Record{}) {
		t.Errorf("Get of %s, %x: %#v, %v; want %v", what, b, r, e, api.ErrRecord)
	}
}

// ofSale is a record of a command with this sale.
func ofSale(s api.Sale) api.Record {
	return api.Record{Kind: api.RecCommand, Command: api.Command{Kind: api.CmdIssue, Sale: s}}
}

// legs are n unlike ones.
func legs(n int) []api.Leg {
	l := make([]api.Leg, n)
	for i := range l {
		l[i] = api.Leg{Carrier: uint8(i + 1), Flight: uint16(1000 + i), Weight: uint32(100000 + i)}
	}
	return l
}

// taxes are n unlike ones.
func taxes(n int) []api.Tax {
	l := make([]api.Tax, n)
	for i := range l {
		l[i] = api.Tax{Code: strings.Repeat("X", i%api.MaxName), Amount: int64(i) << 20}
	}
	return l
}

// some are records of each kind, with few things and with many in them.
func some() []api.Record {
	key := api.Key{Ticket: api.Ticket{Carrier: 7, Serial: api.MaxSerial}, At: 3}
	coupon := api.Coupon{Leg: legs(4)[3], Value: -51, Status: api.Flown, Nonce: 1 << 31}
	sale := api.Sale{Name: "DOE/J", Legs: legs(2), Fare: 101, Taxes: taxes(3), Penalty: 20}
	full := api.Sale{Name: strings.Repeat("N", api.MaxName), Legs: legs(api.MaxCoupons), Fare: api.MaxMoney, Penalty: -1,
		Taxes: slices.Repeat([]api.Tax{{Code: strings.Repeat("\xff", api.MaxName), Amount: -api.MaxMoney}}, api.MaxTaxes)}
	return []api.Record{
		{Kind: api.RecCommand},
		{Kind: api.RecPacket},
		{Kind: api.RecAck},
		ofSale(sale),
		ofSale(full),
		{Kind: api.RecCommand, Command: api.Command{Kind: api.CmdFly, Ticket: key.Ticket, At: 3, Amount: -7}},
		{Kind: api.RecPacket, From: 2, Number: 258, Message: api.Message{Kind: api.MsgGrant, Key: key, Coupon: coupon}},
		{Kind: api.RecPacket, From: 7, Number: 1 << 63, Message: api.Message{Kind: api.MsgReject, Key: key, Amount: 50, Code: api.ErrLine}},
		{Kind: api.RecAck, From: 2, Number: 258},
		{Kind: api.RecAck, From: 255, Number: 1<<64 - 1},
	}
}

// P14.1, P14.2: the chapter's examples.
func TestExamples(t *testing.T) {
	ack := api.Record{Kind: api.RecAck, From: 2, Number: 258}
	want := []byte{3, 2, 0, 0, 0, 0, 0, 0, 1, 2}
	if b := laid(t, ack); !bytes.Equal(b, want) {
		t.Errorf("Put: %x; want %x", b, want)
	}
	unread(t, "a byte more", append(slices.Clone(want), 0))
	unread(t, "a kind that is none", []byte{4})
	unread(t, "nothing", nil)
	unread(t, "nothing", []byte{})
	ack.Message.Kind = 1
	unlaid(t, "an acknowledgement with a message", ack, api.ErrRecord)
}

// P14.1: records byte by byte, written out by hand.
func TestBytes(t *testing.T) {
	command := api.Record{Kind: api.RecCommand, Command: api.Command{
		Kind: 5, Ticket: api.Ticket{Carrier: 6, Serial: 0x0102030405060708}, At: 9, Amount: -2,
		Sale: api.Sale{Name: "AB", Legs: []api.Leg{{Carrier: 10, Flight: 0x0b0c, Weight: 0x0d0e0f10}, {Carrier: 11, Flight: 12, Weight: 13}},
			Fare: 0x1112131415161718, Taxes: []api.Tax{{Code: "GBX", Amount: -256}, {Amount: 1}}, Penalty: -1 << 63},
	}}
	want := []byte("\x01" + "\x05" + "\x06" + "\x01\x02\x03\x04\x05\x06\x07\x08" + "\x09" + "\xff\xff\xff\xff\xff\xff\xff\xfe" +
		"\x02AB" + "\x02" + "\x0a\x0b\x0c\x0d\x0e\x0f\x10" + "\x0b\x00\x0c\x00\x00\x00\x0d" + "\x11\x12\x13\x14\x15\x16\x17\x18" +
		"\x02" + "\x03GBX\xff\xff\xff\xff\xff\xff\xff\x00" + "\x00\x00\x00\x00\x00\x00\x00\x00\x01" + "\x80\x00\x00\x00\x00\x00\x00\x00")
	if b := laid(t, command); !bytes.Equal(b, want) {
		t.Errorf("a command: %x; want %x", b, want)
	}
	packet := api.Record{Kind: api.RecPacket, From: 4, Number: 0x0102030405060708, Message: api.Message{
		Kind: 9, Key: api.Key{Ticket: api.Ticket{Carrier: 10, Serial: 0x1112131415161718}, At: 11},
		Coupon: api.Coupon{Leg: api.Leg{Carrier: 12, Flight: 0x2122, Weight: 0x31323334}, Value: -3, Status: 13, Nonce: 0x41424344},
		Amount: 0x5152535455565758, Code: -4,
	}}
	want = []byte("\x02" + "\x04" + "\x01\x02\x03\x04\x05\x06\x07\x08" + "\x09" + "\x0a" + "\x11\x12\x13\x14\x15\x16\x17\x18" + "\x0b" +
		"\x0c\x21\x22\x31\x32\x33\x34" + "\xff\xff\xff\xff\xff\xff\xff\xfd" + "\x0d" + "\x41\x42\x43\x44" +
		"\x51\x52\x53\x54\x55\x56\x57\x58" + "\xff\xff\xff\xff\xff\xff\xff\xfc")
	if b := laid(t, packet); !bytes.Equal(b, want) {
		t.Errorf("a packet: %x; want %x", b, want)
	}
	if b := laid(t, api.Record{Kind: api.RecAck, From: 255, Number: 1<<64 - 2}); string(b) != "\x03\xff\xff\xff\xff\xff\xff\xff\xff\xfe" {
		t.Errorf("an acknowledgement: %x", b)
	}
	if b := laid(t, api.Record{Kind: api.RecCommand}); string(b) != "\x01"+strings.Repeat("\x00", 19+1+1+8+1+8) {
		t.Errorf("a command in which all is zero: %x", b)
	}
	if b := laid(t, api.Record{Kind: api.RecPacket}); string(b) != "\x02"+strings.Repeat("\x00", 9+11+20+16) {
		t.Errorf("a packet in which all is zero: %x", b)
	}
}

// field is one of a record's that is no struct: where it is, and of which of the record's fields it is a part.
type field struct {
	at   []int
	of   string
	name string
}

// fields are all of a record's, but its Kind, those within structs too.
func fields(of reflect.Type, above field) []field {
	if of.Kind() != reflect.Struct {
		return []field{above}
	}
	var l []field
	for i := range of.NumField() {
		f := of.Field(i)
		in := field{at: append(slices.Clone(above.at), i), of: above.of, name: above.name + "." + f.Name}
		if above.of == "" {
			in.of = f.Name
		}
		if in.of != "Kind" {
			l = append(l, fields(f.Type, in)...)
		}
	}
	return l
}

// set is the record with another value of the field.
func (f field) set(r api.Record, value any) api.Record {
	v := reflect.ValueOf(&r).Elem().FieldByIndex(f.at)
	v.Set(reflect.ValueOf(value).Convert(v.Type()))
	return r
}

// values are what a field of the type is set to: its edges, and each of its bytes set by itself; none of them is zero.
func values(of reflect.Type) []any {
	switch of.Kind() {
	case reflect.String:
		return []any{"\x00", "x", "é", "\xff\x00", strings.Repeat("x", api.MaxName)}
	case reflect.Slice:
		if of.Elem() == reflect.TypeFor[api.Leg]() {
			return []any{make([]api.Leg, 1), legs(1), legs(api.MaxCoupons)}
		}
		return []any{make([]api.Tax, 1), taxes(1), taxes(api.MaxTaxes)}
	}
	var l []any
	for bit := range of.Bits() {
		l = append(l, int64(1)<<bit, -(int64(1) << bit), int64(1)<<bit-1)
	}
	l = append(l, int64(0x0807060504030201), int64(-0x0807060504030201))
	return slices.DeleteFunc(l, func(x any) bool { return reflect.ValueOf(x).Convert(of).IsZero() })
}

// has tells whether records of the kind have a field of this name.
func has(kind uint8, name string) bool {
	switch kind {
	case api.RecCommand:
		return name == "Command"
	case api.RecPacket:
		return name == "From" || name == "Number" || name == "Message"
	}
	return kind == api.RecAck && (name == "From" || name == "Number")
}

// P14.1, P14.2: each field by itself, at its edges and with each of its bytes: in records of the kinds that have it, it is laid and read; in others it is ErrRecord.
func TestEachField(t *testing.T) {
	all := fields(reflect.TypeFor[api.Record](), field{})
	if len(all) != 10+2+12 {
		t.Fatalf("%d fields", len(all))
	}
	for _, f := range all {
		for _, value := range values(reflect.TypeFor[api.Record]().FieldByIndex(f.at).Type) {
			for kind := range 256 {
				r := f.set(api.Record{Kind: uint8(kind)}, value)
				if has(r.Kind, f.of) {
					laid(t, r)
					continue
				}
				unlaid(t, "a record with"+f.name, r, api.ErrRecord)
			}
		}
	}
}

// P14.1: a field that the kind does not have, beside all that it has.
func TestOneFieldTooMany(t *testing.T) {
	for _, r := range some() {
		laid(t, r)
		for _, f := range fields(reflect.TypeFor[api.Record](), field{}) {
			if has(r.Kind, f.of) {
				continue
			}
			for _, value := range values(reflect.TypeFor[api.Record]().FieldByIndex(f.at).Type) {
				unlaid(t, "a record with"+f.name, f.set(r, value), api.ErrRecord)
			}
		}
	}
}

// P14.1: all fields at their least, and at their greatest.
func TestEdgesOfAllFields(t *testing.T) {
	greatest := api.Leg{Carrier: 255, Flight: 1<<16 - 1, Weight: 1<<32 - 1}
	ticket := api.Ticket{Carrier: 255, Serial: 1<<64 - 1}
	for _, n := range []int64{-1 << 63, 1<<63 - 1, -1, 0, -api.MaxMoney, api.MaxMoney} {
		tax := api.Tax{Code: strings.Repeat("\xff", api.MaxName), Amount: n}
		laid(t, api.Record{Kind: api.RecCommand, Command: api.Command{Kind: 255, Ticket: ticket, At: 255, Amount: n,
			Sale: api.Sale{Name: tax.Code, Legs: slices.Repeat([]api.Leg{greatest}, api.MaxCoupons), Fare: n,
				Taxes: slices.Repeat([]api.Tax{tax}, api.MaxTaxes), Penalty: n}}})
		laid(t, api.Record{Kind: api.RecPacket, From: 255, Number: 1<<64 - 1, Message: api.Message{
			Kind: 255, Key: api.Key{Ticket: ticket, At: 255},
			Coupon: api.Coupon{Leg: greatest, Value: n, Status: 255, Nonce: 1<<32 - 1}, Amount: n, Code: api.Errno(n)}})
	}
	laid(t, api.Record{Kind: api.RecAck, From: 255, Number: 1<<64 - 1})
	for kind := range 4 {
		r := api.Record{Kind: uint8(kind)}
		if kind == 0 {
			unlaid(t, "nothing", r, api.ErrRecord)
			continue
		}
		laid(t, r)
	}
}

// tooMany are numbers of bytes or elements that are more than may be: one, and some of which a byte would tell a number that may be.
func tooMany(most int) []int {
	return []int{most + 1, most + 2, 127, 128, 255, 256, 257, 256 + most, 257 + most, 512, 1 << 16, 1<<16 + 1}
}

// P14.1: names and codes of each number of bytes that may be, and of more.
func TestTexts(t *testing.T) {
	text := strings.Repeat("\x00ab'+:?\xff", 1<<14)
	for n := range api.MaxName + 1 {
		laid(t, ofSale(api.Sale{Name: text[:n]}))
		for at := range api.MaxTaxes {
			s := api.Sale{Name: "N", Legs: legs(2), Taxes: taxes(api.MaxTaxes)}
			s.Taxes[at].Code = text[:n]
			laid(t, ofSale(s))
		}
	}
	for _, n := range tooMany(api.MaxName) {
		unlaid(t, "a long name", ofSale(api.Sale{Name: text[:n]}), api.ErrLong)
		for at := range api.MaxTaxes {
			s := api.Sale{Taxes: taxes(api.MaxTaxes)}
			s.Taxes[at].Code = text[:n]
			unlaid(t, "a long code", ofSale(s), api.ErrLong)
		}
	}
}

// P14.1: lists of each number of elements that may be, and of more.
func TestLists(t *testing.T) {
	for n := range api.MaxCoupons + 1 {
		for m := range api.MaxTaxes + 1 {
			laid(t, ofSale(api.Sale{Legs: legs(n), Taxes: taxes(m)}))
		}
	}
	for _, n := range tooMany(api.MaxCoupons) {
		unlaid(t, "many legs", ofSale(api.Sale{Legs: legs(n)}), api.ErrLong)
	}
	for _, n := range tooMany(api.MaxTaxes) {
		unlaid(t, "many taxes", ofSale(api.Sale{Taxes: taxes(n)}), api.ErrLong)
		unlaid(t, "many legs and taxes", ofSale(api.Sale{Legs: legs(n), Taxes: taxes(n)}), api.ErrLong)
	}
}

// R6: a list that is empty, but not nil, is as good as nil.
func TestEmptyLists(t *testing.T) {
	empty := api.Sale{Legs: make([]api.Leg, 0, 3), Taxes: []api.Tax{}}
	for kind := api.RecCommand; kind <= api.RecAck; kind++ {
		with := api.Record{Kind: kind, Command: api.Command{Sale: empty}}
		if b := laid(t, with); !bytes.Equal(b, recordAs(api.Record{Kind: kind})) {
			t.Errorf("empty lists: %x", b)
		}
	}
	unlaid(t, "no kind", api.Record{Command: api.Command{Sale: empty}}, api.ErrRecord)
}

// P14.1, R5: what may not be is told ahead of what is too long.
func TestRecordAheadOfLong(t *testing.T) {
	long := strings.Repeat("x", api.MaxName+1)
	for _, s := range []api.Sale{
		{Name: long},
		{Legs: legs(api.MaxCoupons + 1)},
		{Taxes: taxes(api.MaxTaxes + 1)},
		{Taxes: []api.Tax{{Code: long}}},
		{Name: long, Legs: legs(300), Taxes: taxes(300)},
	} {
		r := ofSale(s)
		unlaid(t, "a long command", r, api.ErrLong)
		for kind := range 256 {
			if r.Kind = uint8(kind); r.Kind != api.RecCommand {
				unlaid(t, "a long sale in another kind", r, api.ErrRecord)
			}
		}
		for _, f := range fields(reflect.TypeFor[api.Record](), field{}) {
			if f.of != "Command" {
				unlaid(t, "a long command with"+f.name, f.set(ofSale(s), 1), api.ErrRecord)
			}
		}
	}
}
