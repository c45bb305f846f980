package seal_test

import (
	"bytes"
	"crypto/hmac"
	"crypto/sha256"
	"reflect"
	"slices"
	"strings"
	"testing"

	"tarmac/api"
	"tarmac/msg"
	"tarmac/seal"
)

// some is n bytes that hang on the seed, none of them a nought.
func some(n, seed int) []byte {
	b := make([]byte, n)
	x := uint32(seed)*2654435761 + 1
	for i := range b {
		x = x*1664525 + 1013904223
		b[i] = byte(x>>24) | 1
	}
	return b
}

// keysOf are keys among n carriers, all unlike, of many lengths; those to oneself are such, too.
func keysOf(n int) [][][]byte {
	keys := make([][][]byte, n)
	for from := range n {
		for to := range n {
			key := append([]byte{byte(1 + 16*from + to)}, some((7*from+11*to)%api.MaxKey, from*n+to)...)
			keys[from] = append(keys[from], key)
		}
	}
	return keys
}

// copied are the same keys in memory of their own.
func copied(keys [][][]byte) [][][]byte {
	var l [][][]byte
	for _, row := range keys {
		var own [][]byte
		for _, key := range row {
			own = append(own, bytes.Clone(key))
		}
		l = append(l, own)
	}
	return l
}

// pairs are all of two unlike carriers of n.
func pairs(n int) [][2]int {
	var l [][2]int
	for from := range n {
		for to := range n {
			if from != to {
				l = append(l, [2]int{from, to})
			}
		}
	}
	return l
}

// ringOf is a ring of keys that may be.
func ringOf(t *testing.T, keys [][][]byte) *seal.Ring {
	t.Helper()
	r, e := seal.New(keys)
	if e != api.OK || r == nil || r.Carriers() != len(keys) {
		t.Fatalf("New of %d carriers' keys: %v, %v, of %d carriers", len(keys), r, e, r.Carriers())
	}
	return r
}

// unmade fails unless New refuses the keys.
func unmade(t *testing.T, what string, keys [][][]byte) {
	t.Helper()
	if r, e := seal.New(keys); e != api.ErrArg || r != nil {
		t.Errorf("New, %s: %v, %v; want nil, %v", what, r, e, api.ErrArg)
	}
}

// lettered is the letter of a text under a key, by the library's own means, as an independent witness.
func lettered(key []byte, text string) []byte {
	h := hmac.New(sha256.New, key)
	h.Write([]byte(text))
	return h.Sum([]byte(text))
}

// packetsFrom are one of each kind, and an Ack, between two carriers.
func packetsFrom(from, to uint8) []api.Packet {
	key := api.Key{Ticket: api.Ticket{Carrier: 1, Serial: 1}, At: 2}
	held := api.Coupon{Leg: api.Leg{Carrier: 7, Flight: 100, Weight: 3}, Value: -50, Status: api.Checked, Nonce: 2}
	l := []api.Packet{{Ack: true}}
	for _, m := range []api.Message{
		{Kind: api.MsgWant},
		{Kind: api.MsgGrant, Coupon: held},
		{Kind: api.MsgRefuse, Code: api.ErrControl},
		{Kind: api.MsgRecall},
		{Kind: api.MsgReturn, Coupon: held},
		{Kind: api.MsgBill, Amount: api.MaxMoney},
		{Kind: api.MsgAccept, Amount: -5},
		{Kind: api.MsgReject, Amount: 1, Code: 999},
	} {
		m.Key = key
		l = append(l, api.Packet{Message: m})
	}
	for i := range l {
		l[i].From, l[i].To, l[i].Number = from, to, uint64(i)<<60|7
	}
	return l
}

// sealed is a packet's letter, which must be told.
func sealed(t *testing.T, r *seal.Ring, p api.Packet) []byte {
	t.Helper()
	b, e := r.Seal(p)
	if e != api.OK || len(b) <= 32 {
		t.Fatalf("Seal(%v): %d bytes, %v", p, len(b), e)
	}
	return b
}

// unsealed fails unless Seal refuses the packet with the error, and with nothing beside it.
func unsealed(t *testing.T, r *seal.Ring, p api.Packet, want api.Errno) {
	t.Helper()
	if b, e := r.Seal(p); e != want || len(b) > 0 {
		t.Errorf("Seal(%v): %q, %v; want %v", p, b, e, want)
	}
}

// opened fails unless Open tells the packet.
func opened(t *testing.T, r *seal.Ring, to uint8, b []byte, want api.Packet) {
	t.Helper()
	if p, e := r.Open(to, b); e != api.OK || p != want {
		t.Errorf("Open(%d, %q) = %v, %v; want %v", to, b, p, e, want)
	}
}

// unopened fails unless Open refuses the bytes with the error, and with nothing beside it.
func unopened(t *testing.T, r *seal.Ring, to uint8, b []byte, want api.Errno) {
	t.Helper()
	if p, e := r.Open(to, b); e != want || p != (api.Packet{}) {
		t.Errorf("Open(%d, %q) = %v, %v; want %v", to, b, p, e, want)
	}
}

// P11.1: rings of each number of carriers, and of none that may be.
func TestNumbersOfCarriers(t *testing.T) {
	for n := 2; n <= api.MaxCarriers; n++ {
		ringOf(t, keysOf(n))
	}
	unmade(t, "nil", nil)
	unmade(t, "no rows", [][][]byte{})
	for _, n := range []int{1, 9, 10, 15} {
		unmade(t, "rows that are too few or too many", keysOf(n))
	}
	unmade(t, "257 rows, which go round to one", make([][][]byte, 257))
	unmade(t, "258 rows, which go round to two", slices.Repeat(keysOf(2), 129))
}

// P11.1: of nil, and of a ring that did not come from New, there are no carriers.
func TestNoRing(t *testing.T) {
	var none *seal.Ring
	if n := none.Carriers(); n != 0 {
		t.Errorf("Carriers of nil: %d", n)
	}
	bare := new(seal.Ring)
	if n := bare.Carriers(); n != 0 {
		t.Errorf("Carriers of a bare ring: %d", n)
	}
	unsealed(t, bare, packetsFrom(0, 1)[0], api.ErrArg)
	unopened(t, bare, 0, make([]byte, 100), api.ErrArg)
}

// P11.1: each row too short, too long, or missing, though another one makes up for it.
func TestRowsOfOtherLengths(t *testing.T) {
	for n := 2; n <= api.MaxCarriers; n++ {
		for i := range n {
			with := func(row [][]byte) [][][]byte {
				keys := keysOf(n)
				keys[i] = row
				return keys
			}
			row := keysOf(n)[i]
			unmade(t, "a row of nil", with(nil))
			unmade(t, "a row without keys", with([][]byte{}))
			unmade(t, "a row without its last key", with(row[:n-1]))
			unmade(t, "a row without its first key", with(row[1:]))
			unmade(t, "a row with a key more", with(append(slices.Clone(row), []byte("more"))))
			unmade(t, "a row with a nil more", with(append(slices.Clone(row), nil)))
			unmade(t, "a row with 256 keys more", with(append(slices.Clone(row), make([][]byte, 256)...)))
			other := with(row[:n-1])
			other[(i+1)%n] = append(slices.Clone(other[(i+1)%n]), []byte("more"))
			unmade(t, "a row short of what another one has", other)
		}
	}
	unmade(t, "rows shorter than their number", keysOf(8)[:3])
	for i, keys := 0, keysOf(3); i < 3; i++ {
		keys[i] = keys[i][:2]
		unmade(t, "rows that are all too short, or some", keys)
	}
}

// P11.1: lengths of keys at both edges, in each place.
func TestLengthsOfKeys(t *testing.T) {
	for n := 2; n <= api.MaxCarriers; n++ {
		for _, at := range pairs(n) {
			with := func(key []byte) [][][]byte {
				keys := keysOf(n)
				keys[at[0]][at[1]] = key
				return keys
			}
			unmade(t, "a key that is nil", with(nil))
			unmade(t, "a key of no byte", with([]byte{}))
			unmade(t, "a key of no byte, with room behind its end", with(make([]byte, 0, 10)))
			for _, size := range []int{api.MaxKey + 1, api.MaxKey + 2, 256, 257, 1000} {
				unmade(t, "a key that is too long", with(some(size, 99)))
			}
			for _, size := range []int{1, 2, api.MaxKey - 1, api.MaxKey} {
				key := append([]byte{200}, some(size-1, 99)...)
				r, p := ringOf(t, with(key)), packetsFrom(uint8(at[0]), uint8(at[1]))[1]
				text, _ := msg.Text(p)
				if b := sealed(t, r, p); !bytes.Equal(b, lettered(key, text)) {
					t.Errorf("under a key of %d bytes: %q", size, b)
				}
			}
		}
	}
	unmade(t, "keys that are all nil", [][][]byte{{nil, nil}, {nil, nil}})
	unmade(t, "a great key", [][][]byte{{nil, make([]byte, 100000)}, {{1}, nil}})
}

// P11.1: keys that are alike in any two places, be they of one list or of two.
func TestKeysAlike(t *testing.T) {
	for n := 2; n <= api.MaxCarriers; n++ {
		for _, a := range pairs(n) {
			for _, b := range pairs(n) {
				if a == b {
					continue
				}
				keys := keysOf(n)
				keys[a[0]][a[1]] = keys[b[0]][b[1]]
				unmade(t, "one key in two places", keys)
				unmade(t, "keys of the same bytes in two places", copied(keys))
			}
		}
	}
	for _, size := range []int{1, api.MaxKey} {
		unmade(t, "keys of noughts that are alike", [][][]byte{{nil, make([]byte, size)}, {make([]byte, size), nil}})
	}
}

// P11.1: keys that are unlike by as little as may be: one bit of one byte, a byte more at either end, a nought behind.
func TestKeysAlmostAlike(t *testing.T) {
	key := some(api.MaxKey-1, 5)
	near := [][]byte{
		key[1:], key[:len(key)-1], key[:1], append(bytes.Clone(key), 0), append([]byte{0}, key...), append(bytes.Clone(key), 1),
		append(bytes.Clone(key[:40]), make([]byte, 10)...), key[:40], {0}, {0, 0}, make([]byte, api.MaxKey),
	}
	for at := range key {
		for bit := range 8 {
			other := bytes.Clone(key)
			other[at] ^= 1 << bit
			near = append(near, other)
		}
	}
	for _, other := range near {
		ringOf(t, [][][]byte{{nil, key}, {other, nil}})
		ringOf(t, [][][]byte{{nil, other}, {key, nil}})
	}
	ringOf(t, [][][]byte{{nil, {0}}, {{0, 0}, nil}})
}

// P11.1: the keys of a carrier to itself play no part: of any length, like each other, like others.
func TestKeysToOneself(t *testing.T) {
	for n := 2; n <= api.MaxCarriers; n++ {
		for _, own := range [][]byte{nil, {}, {0}, some(api.MaxKey, 1), some(api.MaxKey+1, 1), make([]byte, 100000), keysOf(n)[0][1], keysOf(n)[n-1][0]} {
			keys := keysOf(n)
			for i := range n {
				keys[i][i] = own
			}
			r := ringOf(t, keys)
			for i := range uint8(n) {
				for _, p := range packetsFrom(i, i) {
					text, _ := msg.Text(p)
					unsealed(t, r, p, api.ErrArg)
					if !isAnybodys(keys, i, own) {
						unopened(t, r, i, lettered(own, text), api.ErrMac)
					}
				}
			}
			for _, at := range pairs(n) {
				p := packetsFrom(uint8(at[0]), uint8(at[1]))[2]
				opened(t, r, p.To, sealed(t, r, p), p)
			}
		}
	}
}

// isAnybodys tells whether a key is that of any other carrier to to.
func isAnybodys(keys [][][]byte, to uint8, key []byte) bool {
	for from := range keys {
		if from != int(to) && bytes.Equal(keys[from][to], key) {
			return true
		}
	}
	return false
}

// P11.1, R3: the keys are not changed, nor the room behind their ends, and what the caller writes there afterwards is not seen.
func TestKeysAreTheCallers(t *testing.T) {
	for n := 2; n <= api.MaxCarriers; n++ {
		keys := keysOf(n)
		var rooms [][]byte
		for _, row := range keys {
			for to, key := range row {
				room := append(bytes.Clone(key), "behind"...)
				row[to] = room[:len(key)]
				rooms = append(rooms, room)
			}
		}
		was, roomsWere := copied(keys), copied([][][]byte{rooms})[0]
		r, fresh := ringOf(t, keys), ringOf(t, was)
		use(t, r, n)
		if !reflect.DeepEqual(keys, was) || !reflect.DeepEqual(rooms, roomsWere) {
			t.Errorf("%d carriers: the keys, or the room behind them, were changed", n)
		}
		for _, room := range rooms {
			clear(room)
		}
		for _, row := range keys {
			clear(row)
		}
		clear(keys)
		if r.Carriers() != n {
			t.Errorf("%d carriers, when the keys were cleared: %d", n, r.Carriers())
		}
		for _, at := range pairs(n) {
			p := packetsFrom(uint8(at[0]), uint8(at[1]))[3]
			if b := sealed(t, r, p); !bytes.Equal(b, sealed(t, fresh, p)) {
				t.Errorf("Seal(%v), when the keys were cleared: %q", p, b)
			}
			opened(t, r, p.To, sealed(t, fresh, p), p)
		}
	}
}

// use seals and opens a letter of each pair.
func use(t *testing.T, r *seal.Ring, n int) {
	t.Helper()
	for _, at := range pairs(n) {
		p := packetsFrom(uint8(at[0]), uint8(at[1]))[1]
		opened(t, r, p.To, sealed(t, r, p), p)
	}
}

// R2: rings do not touch each other.
func TestTwoRings(t *testing.T) {
	other := keysOf(3)
	for _, at := range pairs(3) {
		other[at[0]][at[1]] = append([]byte("other "), byte(at[0]), byte(at[1]))
	}
	first := ringOf(t, keysOf(3))
	second := ringOf(t, other)
	unmade(t, "a row too short, between", keysOf(3)[:2])
	for _, at := range pairs(3) {
		p := packetsFrom(uint8(at[0]), uint8(at[1]))[4]
		opened(t, first, p.To, sealed(t, first, p), p)
		opened(t, second, p.To, sealed(t, second, p), p)
		unopened(t, first, p.To, sealed(t, second, p), api.ErrMac)
		unopened(t, second, p.To, sealed(t, first, p), api.ErrMac)
	}
}

// P11.2: a letter is the packet's text, and behind it the mac of that text under the key of its From and To.
func TestLetters(t *testing.T) {
	for n := 2; n <= api.MaxCarriers; n++ {
		keys := keysOf(n)
		r := ringOf(t, keys)
		for _, at := range pairs(n) {
			for _, p := range packetsFrom(uint8(at[0]), uint8(at[1])) {
				text, e := msg.Text(p)
				if e != api.OK {
					t.Fatalf("Text(%v): %v", p, e)
				}
				want := lettered(keys[at[0]][at[1]], text)
				for range 2 {
					if b := sealed(t, r, p); !bytes.Equal(b, want) {
						t.Errorf("%d carriers: Seal(%v) = %q; want %q", n, p, b, want)
					}
				}
			}
		}
	}
}

// P11.2: a known letter: the ack's text of chapter 10, and the mac under the key Jefe.
func TestKnownLetter(t *testing.T) {
	keys := keysOf(3)
	keys[2][1] = []byte("Jefe")
	b := sealed(t, ringOf(t, keys), api.Packet{From: 2, To: 1, Ack: true, Number: 7})
	if want := lettered([]byte("Jefe"), "UNB+2+1+7'ACK'UNZ+1+7'"); !bytes.Equal(b, want) {
		t.Errorf("%q; want %q", b, want)
	}
}

// P11.2: From or To that are no carriers, or are one, ahead of what is wrong with the message.
func TestSealCarriers(t *testing.T) {
	for _, n := range []int{2, 3, api.MaxCarriers} {
		r := ringOf(t, keysOf(n))
		for from := range 256 {
			for to := range 256 {
				good, bad := packetsFrom(uint8(from), uint8(to))[1], api.Packet{From: uint8(from), To: uint8(to)}
				if from < n && to < n && from != to {
					sealed(t, r, good)
					unsealed(t, r, bad, api.ErrKind)
					continue
				}
				unsealed(t, r, good, api.ErrArg)
				unsealed(t, r, bad, api.ErrArg)
			}
		}
	}
}

// P11.2: msg.Text's errors.
func TestSealErrors(t *testing.T) {
	r := ringOf(t, keysOf(2))
	good := packetsFrom(0, 1)
	for _, x := range []struct {
		want  api.Errno
		spoil func(p *api.Packet)
	}{
		{api.ErrKind, func(p *api.Packet) { p.Message.Kind = 0 }},
		{api.ErrKind, func(p *api.Packet) { p.Message.Kind = 9 }},
		{api.ErrKind, func(p *api.Packet) { p.Message = api.Message{} }},
		{api.ErrArg, func(p *api.Packet) { p.Message.Key.Ticket.Serial = 0 }},
		{api.ErrArg, func(p *api.Packet) { p.Message.Key.Ticket.Serial = api.MaxSerial + 1 }},
		{api.ErrArg, func(p *api.Packet) { p.Message.Key.Ticket.Carrier = api.MaxCarriers }},
		{api.ErrField, func(p *api.Packet) { p.Message.Key.At = api.MaxCoupons }},
		{api.ErrField, func(p *api.Packet) { p.Message.Amount = api.MaxMoney + 1 }},
		{api.ErrField, func(p *api.Packet) { p.Message.Code = 1000 }},
		{api.ErrField, func(p *api.Packet) { p.Message.Coupon.Status = 8 }},
		{api.ErrField, func(p *api.Packet) { p.Ack = true }},
	} {
		for _, p := range good[1:] {
			x.spoil(&p)
			if _, e := msg.Text(p); e != x.want {
				t.Fatalf("Text(%v): %v; want %v", p, e, x.want)
			}
			unsealed(t, r, p, x.want)
		}
	}
}

// P11.2, P11.3: of nil, whatever else is wrong.
func TestNil(t *testing.T) {
	var none *seal.Ring
	for _, p := range []api.Packet{packetsFrom(0, 1)[1], packetsFrom(1, 1)[1], {}, {From: 9, To: 9}, {From: 0, To: 1, Message: api.Message{Kind: 9}}} {
		unsealed(t, none, p, api.ErrNil)
	}
	letter := sealed(t, ringOf(t, keysOf(2)), packetsFrom(0, 1)[1])
	for _, to := range []uint8{0, 1, 8, 255} {
		for _, b := range [][]byte{nil, {}, letter[:31], make([]byte, 40), letter} {
			unopened(t, none, to, b, api.ErrNil)
		}
	}
}

// P11.3: to that is no carrier, ahead of what is wrong with the bytes.
func TestOpenCarriers(t *testing.T) {
	for n := 2; n <= api.MaxCarriers; n++ {
		r := ringOf(t, keysOf(n))
		letter := sealed(t, r, packetsFrom(0, 1)[1])
		for to := range 256 {
			for _, b := range [][]byte{nil, letter[:31], make([]byte, 40)} {
				want := api.ErrMac
				if to >= n {
					want = api.ErrArg
				}
				unopened(t, r, uint8(to), b, want)
			}
			if to >= n {
				unopened(t, r, uint8(to), letter, api.ErrArg)
			}
		}
	}
}

// P11.3: fewer than 32 bytes, be they the ends of macs that are right, or of noughts.
func TestTooFewBytes(t *testing.T) {
	keys := keysOf(3)
	r := ringOf(t, keys)
	letter, bare := sealed(t, r, packetsFrom(1, 2)[1]), lettered(keys[1][2], "")
	for n := range 32 {
		for to := range uint8(3) {
			unopened(t, r, to, make([]byte, n), api.ErrMac)
			unopened(t, r, to, letter[:n], api.ErrMac)
			unopened(t, r, to, letter[len(letter)-n:], api.ErrMac)
			unopened(t, r, to, bare[:n], api.ErrMac)
			unopened(t, r, to, bare[32-n:], api.ErrMac)
		}
	}
	unopened(t, r, 2, nil, api.ErrMac)
	unopened(t, r, 2, make([]byte, 32), api.ErrMac)
	unopened(t, r, 2, bare, api.ErrHead) // 32 bytes: no text, and its mac
	unopened(t, r, 2, append([]byte("x"), bare...), api.ErrMac)
}

// P11.3, P11.4: each bit of a letter changed, each byte taken out, put in, or cut off with all that is behind it or ahead of it.
func TestSpoiltLetters(t *testing.T) {
	r := ringOf(t, keysOf(3))
	for _, p := range packetsFrom(1, 2) {
		letter := sealed(t, r, p)
		for at := range letter {
			for bit := range 8 {
				spoilt := bytes.Clone(letter)
				spoilt[at] ^= 1 << bit
				unopened(t, r, 2, spoilt, api.ErrMac)
			}
			unopened(t, r, 2, slices.Delete(bytes.Clone(letter), at, at+1), api.ErrMac)
			unopened(t, r, 2, slices.Insert(bytes.Clone(letter), at, '+'), api.ErrMac)
			unopened(t, r, 2, letter[:at], api.ErrMac)
			if at > 0 {
				unopened(t, r, 2, letter[at:], api.ErrMac)
			}
		}
		unopened(t, r, 2, append(bytes.Clone(letter), 0), api.ErrMac)
		unopened(t, r, 2, append(bytes.Clone(letter), letter...), api.ErrMac)
		opened(t, r, 2, letter, p)
	}
}

// P11.3: each byte of a letter as each other one.
func TestEachByteOfALetter(t *testing.T) {
	r := ringOf(t, keysOf(2))
	p := packetsFrom(1, 0)[0]
	letter := sealed(t, r, p)
	for at, was := range letter {
		for c := range 256 {
			letter[at] = byte(c)
			if byte(c) == was {
				opened(t, r, 0, letter, p)
			} else {
				unopened(t, r, 0, letter, api.ErrMac)
			}
		}
		letter[at] = was
	}
}

// P11.3, P11.4: two bytes of a letter that changed places, and a mac ahead of its text.
func TestBytesInAnotherOrder(t *testing.T) {
	r := ringOf(t, keysOf(2))
	letter := sealed(t, r, packetsFrom(0, 1)[0])
	end := len(letter) - 32
	for i := range letter {
		for j := range i {
			if letter[i] != letter[j] {
				other := bytes.Clone(letter)
				other[i], other[j] = other[j], other[i]
				unopened(t, r, 1, other, api.ErrMac)
			}
		}
	}
	unopened(t, r, 1, slices.Concat(letter[end:], letter[:end]), api.ErrMac)
}

// P11.3: a text whose mac is right under any pair's key is opened by whom that key is for, and by nobody else; who holds another key can't speak as From.
func TestLettersUnderEachKey(t *testing.T) {
	for n := 2; n <= api.MaxCarriers; n++ {
		keys := keysOf(n)
		r := ringOf(t, keys)
		p := packetsFrom(0, 1)[1]
		text, _ := msg.Text(p)
		for from := range n {
			for to := range n {
				b := lettered(keys[from][to], text)
				for by := range n {
					switch {
					case by != to || from == to:
						unopened(t, r, uint8(by), b, api.ErrMac)
					case from == 0 && to == 1:
						opened(t, r, 1, b, p)
					default:
						unopened(t, r, uint8(by), b, api.ErrField)
					}
				}
			}
		}
		unopened(t, r, 1, lettered([]byte("nobody's"), text), api.ErrMac)
		unopened(t, r, 1, lettered(nil, text), api.ErrMac)
	}
}

// P11.3: From and To of a packet whose mac is right, as they may be and as they may not.
func TestOpenFields(t *testing.T) {
	for n := 2; n <= api.MaxCarriers; n++ {
		keys := keysOf(n)
		r := ringOf(t, keys)
		for _, at := range pairs(n) {
			for from := range uint8(api.MaxCarriers) {
				for to := range uint8(api.MaxCarriers) {
					p := packetsFrom(from, to)[5]
					text, _ := msg.Text(p)
					b := lettered(keys[at[0]][at[1]], text)
					if int(from) == at[0] && int(to) == at[1] {
						opened(t, r, uint8(at[1]), b, p)
					} else {
						unopened(t, r, uint8(at[1]), b, api.ErrField)
					}
				}
			}
		}
	}
}

// spoilt are texts that tell no packet, and why.
func spoilt() map[string]api.Errno {
	return map[string]api.Errno{
		"":                                              api.ErrHead,
		"x":                                             api.ErrSign,
		"UNB+1+2+7'ACK'UNZ+1+7":                         api.ErrEnd,
		"UNB+1+2+7'ack'UNZ+1+7'":                        api.ErrSign,
		"UNB+1+2+7'\x00ACK'UNZ+1+7'":                    api.ErrSign,
		"UNB+1+2+7'\xff'UNZ+1+7'":                       api.ErrSign,
		"UNB+8+2+7'ACK'UNZ+1+7'":                        api.ErrHead,
		"UNB+1+8+7'ACK'UNZ+1+7'":                        api.ErrHead,
		"UNB+1+2+7'ACK'UNZ+2+7'":                        api.ErrCount,
		"UNB+1+2+7'UNZ+0+7'":                            api.ErrKind,
		"UNB+1+2+7'ACK'UNZ+1+8'":                        api.ErrRef,
		"UNB+1+2+7'MSG+9'UNZ+1+7'":                      api.ErrKind,
		"UNB+1+2+7'ACK+1'UNZ+1+7'":                      api.ErrKind,
		"UNB+1+2+7'MSG+1'UNZ+1+7'":                      api.ErrField,
		"UNB+1+2+7'ACK'ACK'UNZ+2+7'":                    api.ErrField,
		"UNB+1+2+7'MSG+1'KEY+1+0'UNZ+2+7'":              api.ErrShape,
		strings.Repeat("\n", api.MaxBytes+1):            api.ErrLong,
		strings.Repeat(" ", 3*api.MaxBytes):             api.ErrLong,
		"UNB+1+2+7'" + strings.Repeat("ACK'", 70):       api.ErrLong,
		"UNB+1+2+7'MSG+1'KEY+00100000000016+0'UNZ+2+7'": api.ErrCheck,
		"UNB+1+2+7'MSG+1'KEY+00100000000004+0'UNZ+2+7'": api.ErrArg,
	}
}

// P11.3: what is wrong with a text is told where its mac is right under any key to to, ahead of what is wrong with From and To; where it is right under none, ErrMac.
func TestOpenTexts(t *testing.T) {
	keys := keysOf(3)
	r := ringOf(t, keys)
	for text, want := range spoilt() {
		if _, e := msg.Parse(text); e != want {
			t.Fatalf("Parse(%.60q): %v; want %v", text, e, want)
		}
		for _, at := range pairs(3) {
			b := lettered(keys[at[0]][at[1]], text)
			for to := range uint8(3) {
				if int(to) == at[1] {
					unopened(t, r, to, b, want)
				} else {
					unopened(t, r, to, b, api.ErrMac)
				}
			}
			unopened(t, r, 3, b, api.ErrArg)
			b[len(b)-1] ^= 1
			unopened(t, r, uint8(at[1]), b, api.ErrMac)
		}
	}
}

// P11.3: a text that is not as Seal would print it, but is read as a packet, is one.
func TestOtherTextsOfAPacket(t *testing.T) {
	keys := keysOf(3)
	r := ringOf(t, keys)
	for _, p := range packetsFrom(1, 2) {
		text, _ := msg.Text(p)
		opened(t, r, 2, lettered(keys[1][2], strings.ReplaceAll(text, "'", "'\n")), p)
		unopened(t, r, 2, lettered(keys[0][2], strings.ReplaceAll(text, "'", "'\n")), api.ErrField)
	}
}

// P11.3, P11.4: keys that are unlike by noughts behind them have one mac: From must have one of them, and To is still asked.
func TestKeysOfOneMac(t *testing.T) {
	keys := keysOf(3)
	keys[0][2], keys[1][2], keys[1][0] = []byte("key"), []byte("key\x00"), []byte("key\x00\x00")
	r := ringOf(t, keys)
	for _, from := range []uint8{0, 1} {
		p := packetsFrom(from, 2)[6]
		b := sealed(t, r, p)
		opened(t, r, 2, b, p)
		unopened(t, r, 0, b, api.ErrField) // under the key of 1 to 0 the mac is right, too
		unopened(t, r, 1, b, api.ErrMac)
	}
	text, _ := msg.Text(packetsFrom(2, 1)[6])
	unopened(t, r, 2, lettered([]byte("key"), text), api.ErrField)
	unopened(t, r, 1, lettered([]byte("key"), text), api.ErrMac)
}

// P11.4: what is sealed is opened by whom it is for, as the packet, and by nobody else.
func TestSealedIsOpened(t *testing.T) {
	for n := 2; n <= api.MaxCarriers; n++ {
		r := ringOf(t, keysOf(n))
		for _, at := range pairs(n) {
			for _, p := range packetsFrom(uint8(at[0]), uint8(at[1])) {
				b := sealed(t, r, p)
				for by := range uint8(n) {
					if by == p.To {
						opened(t, r, by, b, p)
					} else {
						unopened(t, r, by, b, api.ErrMac)
					}
				}
			}
		}
	}
}

// P11.4: whatever bytes, of whatever length, are refused with ErrMac: noughts, any, the text alone, the text with a mac of no key.
func TestAnyBytes(t *testing.T) {
	r := ringOf(t, keysOf(api.MaxCarriers))
	text, _ := msg.Text(packetsFrom(0, 1)[1])
	sum := sha256.Sum256([]byte(text))
	for to := range uint8(api.MaxCarriers) {
		for n := range 200 {
			unopened(t, r, to, make([]byte, n), api.ErrMac)
			unopened(t, r, to, some(n, int(to)), api.ErrMac)
		}
		for seed := range 100 {
			unopened(t, r, to, some(40, seed), api.ErrMac)
			unopened(t, r, to, append([]byte(text), some(32, seed)...), api.ErrMac)
		}
		unopened(t, r, to, []byte(text), api.ErrMac)
		unopened(t, r, to, append([]byte(text), make([]byte, 32)...), api.ErrMac)
		unopened(t, r, to, append([]byte(text), sum[:]...), api.ErrMac)
		unopened(t, r, to, some(api.MaxBytes+33, int(to)), api.ErrMac)
	}
}

// R3: what is opened is not changed, nor the room behind its end, be it refused or not; and it is not kept.
func TestLetterIsTheCallers(t *testing.T) {
	keys := keysOf(3)
	r := ringOf(t, keys)
	for _, p := range packetsFrom(1, 2) {
		letter := sealed(t, r, p)
		for _, b := range [][]byte{letter, letter[:40], letter[:10], lettered(keys[1][2], "x"), lettered(keys[0][2], "UNB+1+2+7'ACK'UNZ+1+7'")} {
			room := append(bytes.Clone(b), "behind it is room"...)
			was := bytes.Clone(room)
			for to := range uint8(4) {
				r.Open(to, room[:len(b)])
			}
			if !bytes.Equal(room, was) {
				t.Errorf("Open left %q of %q", room, was)
			}
		}
		q, _ := r.Open(2, letter)
		clear(letter)
		if q != p {
			t.Errorf("%v, when its letter was cleared; want %v", q, p)
		}
	}
}

// R3: each letter is new memory, spare room too: what is written there no later answer shows.
func TestLettersAreNew(t *testing.T) {
	r := ringOf(t, keysOf(3))
	for _, p := range packetsFrom(1, 2) {
		first := sealed(t, r, p)
		want := bytes.Clone(first)
		second := sealed(t, r, p)
		clear(first[:cap(first)])
		if !bytes.Equal(second, want) {
			t.Errorf("Seal(%v): a letter shows what was written into another one: %q", p, second)
		}
		if third := sealed(t, r, p); !bytes.Equal(third, want) {
			t.Errorf("Seal(%v), when a letter was written: %q; want %q", p, third, want)
		}
		opened(t, r, 2, second, p)
	}
}

// R2: what is refused leaves nothing behind.
func TestRefusalsLeaveNothing(t *testing.T) {
	keys := keysOf(3)
	r := ringOf(t, keys)
	p := packetsFrom(1, 2)[1]
	letter := sealed(t, r, p)
	for i := range 50 {
		unopened(t, r, 2, some(40, i), api.ErrMac)
		unopened(t, r, 2, lettered(keys[0][2], "x"), api.ErrSign)
		unsealed(t, r, api.Packet{From: 1, To: 2}, api.ErrKind)
		unsealed(t, r, api.Packet{From: 3, To: 2}, api.ErrArg)
	}
	opened(t, r, 2, letter, p)
	if again := sealed(t, r, p); !bytes.Equal(again, letter) || r.Carriers() != 3 {
		t.Errorf("behind refusals: %q of %d carriers; want %q", again, r.Carriers(), letter)
	}
}
