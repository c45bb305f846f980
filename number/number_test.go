package number_test

import (
	"fmt"
	"math"
	"strings"
	"testing"
	"unicode/utf8"

	"tarmac/api"
	"tarmac/number"
)

// size is how many digits a number has; the last one is the check digit.
const size = 14

// dice is a row of numbers that look thrown, the same at each run.
type dice uint64

func (d *dice) next() uint64 {
	*d = *d*6364136223846793005 + 1442695040888963407
	x := uint64(*d)
	return x ^ x>>29
}

// ticket is one that may be, its serial of any length.
func (d *dice) ticket() api.Ticket {
	return api.Ticket{Carrier: uint8(d.next() % api.MaxCarriers), Serial: 1 + d.next()%api.MaxSerial>>(d.next()%34)}
}

// edges are serials of tickets that may be.
func edges() []uint64 {
	l := []uint64{1, 2, 6, 7, 8, 1<<32 - 1, 1 << 32, 1<<32 + 1, 1234567890, api.MaxSerial - 1, api.MaxSerial}
	for ten := uint64(10); ten < api.MaxSerial; ten *= 10 {
		l = append(l, ten-1, ten, ten+1)
	}
	return l
}

// tickets are many that may be: all of the edges, and thrown ones.
func tickets() []api.Ticket {
	var l []api.Ticket
	for c := range uint8(api.MaxCarriers) {
		for _, n := range edges() {
			l = append(l, api.Ticket{Carrier: c, Serial: n})
		}
	}
	var d dice
	for range 500 {
		l = append(l, d.ticket())
	}
	return l
}

// written is the number of any carrier and serial that have as many digits, reckoned whole.
func written(carrier, serial uint64) string {
	return fmt.Sprintf("%03d%010d%d", carrier, serial, (carrier*10_000_000_000+serial)%7)
}

// withDigit is the text with another byte at a place.
func withDigit(text string, at int, c byte) string {
	return text[:at] + string([]byte{c}) + text[at+1:]
}

// texts fails unless the ticket's number is the text.
func texts(t *testing.T, x api.Ticket, want string) {
	t.Helper()
	if s, e := number.Text(x); s != want || e != api.OK {
		t.Errorf("Text(%d) = %q, %v; want %q", x, s, e, want)
	}
}

// untold fails unless the ticket is refused, with nothing beside the error.
func untold(t *testing.T, x api.Ticket) {
	t.Helper()
	if s, e := number.Text(x); s != "" || e != api.ErrArg {
		t.Errorf("Text(%d) = %q, %v; want %v", x, s, e, api.ErrArg)
	}
}

// parses fails unless the text is the ticket's number.
func parses(t *testing.T, s string, want api.Ticket) {
	t.Helper()
	if x, e := number.Parse(s); x != want || e != api.OK {
		t.Errorf("Parse(%q) = %d, %v; want %d", s, x, e, want)
	}
}

// refuses fails unless the text is refused by the error, with nothing beside it.
func refuses(t *testing.T, s string, want api.Errno) {
	t.Helper()
	if x, e := number.Parse(s); x != (api.Ticket{}) || e != want {
		t.Errorf("Parse(%.40q) = %d, %v; want %v", s, x, e, want)
	}
}

// P7.1, P7.2: the document's examples.
func TestExamples(t *testing.T) {
	texts(t, api.Ticket{Carrier: 1, Serial: 1}, "00100000000015")
	parses(t, "00100000000015", api.Ticket{Carrier: 1, Serial: 1})
	for _, c := range []byte("012346789") {
		refuses(t, withDigit("00100000000015", size-1, c), api.ErrCheck)
	}
	refuses(t, "0010000000001", api.ErrShape)
	refuses(t, "00800000000015", api.ErrArg) // 8 is 1 and 7: the same is left
}

// P7.1: numbers that were reckoned by hand, of each check digit.
func TestText(t *testing.T) {
	texts(t, api.Ticket{Carrier: 0, Serial: 1}, "00000000000011")
	texts(t, api.Ticket{Carrier: 0, Serial: 2}, "00000000000022")
	texts(t, api.Ticket{Carrier: 0, Serial: 3}, "00000000000033")
	texts(t, api.Ticket{Carrier: 0, Serial: 4}, "00000000000044")
	texts(t, api.Ticket{Carrier: 0, Serial: 5}, "00000000000055")
	texts(t, api.Ticket{Carrier: 0, Serial: 6}, "00000000000066")
	texts(t, api.Ticket{Carrier: 0, Serial: 7}, "00000000000070")
	texts(t, api.Ticket{Carrier: 0, Serial: 8}, "00000000000081")
	texts(t, api.Ticket{Carrier: 0, Serial: 10}, "00000000000103")
	texts(t, api.Ticket{Carrier: 1, Serial: 3}, "00100000000030") // 4 and 3 is 7
	texts(t, api.Ticket{Carrier: 2, Serial: 1}, "00200000000012") // 8 and 1 is 9
	texts(t, api.Ticket{Carrier: 7, Serial: 1}, "00700000000011")
	texts(t, api.Ticket{Carrier: 0, Serial: api.MaxSerial}, "00099999999993")                   // one less than what leaves 4
	texts(t, api.Ticket{Carrier: api.MaxCarriers - 1, Serial: api.MaxSerial}, "00799999999993") // one less than what leaves 32
	texts(t, api.Ticket{Carrier: api.MaxCarriers - 1, Serial: api.MaxSerial - 3}, "00799999999960")
}

// P7.1, P7.3: many numbers, reckoned whole; each is read as its ticket.
func TestManyTexts(t *testing.T) {
	seen := map[byte]int{}
	for _, x := range tickets() {
		s := written(uint64(x.Carrier), x.Serial)
		texts(t, x, s)
		parses(t, s, x)
		seen[s[size-1]]++
	}
	for c := byte('0'); c < '7'; c++ {
		if seen[c] < 20 {
			t.Errorf("the check digit %c was asked %d times only", c, seen[c])
		}
	}
}

// P7.1: a carrier or a serial that may not be, or neither may.
func TestTextRefused(t *testing.T) {
	noSerials := []uint64{0, api.MaxSerial + 1, api.MaxSerial + 2, 1 << 34, math.MaxInt64, math.MaxInt64 + 1, math.MaxUint64 - 1, math.MaxUint64}
	for c := range 256 {
		for _, n := range noSerials {
			untold(t, api.Ticket{Carrier: uint8(c), Serial: n})
		}
		if c < api.MaxCarriers {
			continue
		}
		for _, n := range edges() {
			untold(t, api.Ticket{Carrier: uint8(c), Serial: n})
		}
	}
}

// P7.2: texts of each length but fourteen.
func TestParseLengths(t *testing.T) {
	for n := range 200 {
		if n == size {
			continue
		}
		for _, part := range []string{"0", "1", "7", "9", "00100000000015"} {
			refuses(t, strings.Repeat(part, n)[:n], api.ErrShape)
		}
	}
	for _, x := range tickets() {
		s := written(uint64(x.Carrier), x.Serial)
		for _, more := range []string{"0", " ", "\n", "\x00"} {
			refuses(t, s+more, api.ErrShape)
			refuses(t, more+s, api.ErrShape)
		}
		refuses(t, s[1:], api.ErrShape)
		refuses(t, s[:size-1], api.ErrShape)
		refuses(t, s+s, api.ErrShape)
	}
	refuses(t, strings.Repeat("0", 1<<20), api.ErrShape)
}

// P7.2: every byte that is no digit at each place, of numbers that are else right, or wrong in each way.
func TestParseBytes(t *testing.T) {
	right := written(3, 1234567890)
	for _, s := range []string{right, withDigit(right, size-1, '9'), written(8, 1), written(0, 0), "99999999999999"} {
		for at := range size {
			for c := range 256 {
				if c < '0' || c > '9' {
					refuses(t, withDigit(s, at, byte(c)), api.ErrShape)
				}
			}
		}
	}
}

// P7.2: texts that others take for numbers: with signs, blanks, points, of another base, and digits beside the ten.
func TestParseOtherNumbers(t *testing.T) {
	for _, s := range []string{
		"+0100000000015", "-0100000000015", " 0100000000015", "0010000000001 ", "\t0100000000015",
		"001 0000000001", "001-0000000001", "001_0000000001", "0x100000000015", "001000000001e5",
		"00100000000.15", "001000000000+1", "001+0000000015", "001-0000000015", "0010000000001\n",
	} {
		refuses(t, s, api.ErrShape)
		refuses(t, s+"5", api.ErrShape)
	}
	for _, zero := range []rune{0x660, 0x966, 0xff10, 0x1d7ce} { // Arabic, Devanagari, wide, bold ones
		wide := string(zero)
		refuses(t, strings.Repeat(wide, size), api.ErrShape)
		for at := 0; at+len(wide) <= size; at++ {
			refuses(t, "00000000000011"[:at]+wide+"00000000000011"[at+len(wide):], api.ErrShape)
			refuses(t, "00000000000011"[:at]+wide+"00000000000011"[at+1:], api.ErrShape)
		}
	}
	refuses(t, strings.Repeat("٠", size/2), api.ErrShape)
	refuses(t, strings.Repeat(string(utf8.RuneError), 5)[:size], api.ErrShape)
}

// P7.2: of the ten check digits one is right, and never one above 6.
func TestParseCheckDigits(t *testing.T) {
	for _, x := range tickets() {
		s := written(uint64(x.Carrier), x.Serial)
		for c := byte('0'); c <= '9'; c++ {
			if c == s[size-1] {
				parses(t, s, x)
			} else {
				refuses(t, withDigit(s, size-1, c), api.ErrCheck)
			}
		}
	}
}

// P7.2: each carrier that three digits tell: those that may be, and those that may not, greater ones than a byte holds too.
func TestParseCarriers(t *testing.T) {
	for c := range uint64(1000) {
		for _, n := range edges() {
			if c < api.MaxCarriers {
				parses(t, written(c, n), api.Ticket{Carrier: uint8(c), Serial: n})
			} else {
				refuses(t, written(c, n), api.ErrArg)
			}
		}
		refuses(t, written(c, 0), api.ErrArg)
	}
}

// P7.2, R5: ErrShape ahead of both others, ErrCheck ahead of ErrArg.
func TestParseRefusedTwice(t *testing.T) {
	for _, c := range []uint64{0, 7, 8, 9, 255, 256, 263, 264, 999} {
		for _, n := range []uint64{0, 1, api.MaxSerial} {
			if c < api.MaxCarriers && n > 0 {
				continue
			}
			s := written(c, n)
			refuses(t, s, api.ErrArg)
			for d := byte('0'); d <= '9'; d++ {
				if d != s[size-1] {
					refuses(t, withDigit(s, size-1, d), api.ErrCheck)
				}
			}
			refuses(t, withDigit(s, size-1, 'x'), api.ErrShape)
			refuses(t, s[:size-1], api.ErrShape)
			refuses(t, s+s[size-1:], api.ErrShape)
		}
	}
	refuses(t, "00000000000000", api.ErrArg)
	refuses(t, "00000000000001", api.ErrCheck)
	refuses(t, "00000000000007", api.ErrCheck)
	refuses(t, "99999999999999", api.ErrCheck)
	refuses(t, "9999999999999x", api.ErrShape)
}

// P7.3: what is read is told by the same text again, whatever fourteen digits there are.
func TestTextsOfWhatIsRead(t *testing.T) {
	var d dice
	read := 0
	for range 20000 {
		s := fmt.Sprintf("00%012d", d.next()%1_000_000_000_000)
		if x, e := number.Parse(s); e == api.OK {
			texts(t, x, s)
			read++
		}
	}
	if read < 1000 {
		t.Errorf("%d texts were read only", read)
	}
}

// P7.3: tickets that are unlike have unlike texts, and texts that are unlike are unlike tickets'.
func TestEachOthers(t *testing.T) {
	byText, byTicket := map[string]api.Ticket{}, map[api.Ticket]string{}
	for c := range uint8(api.MaxCarriers) {
		for n := uint64(1); n <= 2000; n++ {
			for _, x := range []api.Ticket{{Carrier: c, Serial: n}, {Carrier: c, Serial: api.MaxSerial + 1 - n}} {
				s, e := number.Text(x)
				if e != api.OK || byText[s] != (api.Ticket{}) || byTicket[x] != "" {
					t.Fatalf("Text(%d) = %q, %v; which is that of %d", x, s, e, byText[s])
				}
				byText[s], byTicket[x] = x, s
			}
		}
	}
	for s, x := range byText {
		parses(t, s, x)
	}
}

// bySeven tells whether two digits differ by 7.
func bySeven(a, b byte) bool {
	return a == b+7 || b == a+7
}

// unseen fails unless a right number that was changed by sevens is not told by its check digit: it is another ticket's, or none's that may be.
func unseen(t *testing.T, s, other string) {
	t.Helper()
	x, _ := number.Parse(s)
	y, e := number.Parse(other)
	if e == api.OK && (y == x || y == (api.Ticket{})) || e != api.OK && (e != api.ErrArg || y != (api.Ticket{})) {
		t.Errorf("Parse(%q, which was %q) = %d, %v", other, s, y, e)
	}
}

// P7.3: one digit that is another one is told, unless both differ by 7; the check digit is told even then.
func TestOneDigitChanged(t *testing.T) {
	told, missed := 0, 0
	for _, x := range tickets() {
		s, _ := number.Text(x)
		for at := range s {
			for c := byte('0'); c <= '9'; c++ {
				other := withDigit(s, at, c)
				switch {
				case c == s[at]:
				case bySeven(c, s[at]) && at < size-1:
					unseen(t, s, other)
					missed++
				default:
					refuses(t, other, api.ErrCheck)
					told++
				}
			}
		}
	}
	if told < 50000 || missed < 3000 {
		t.Errorf("%d changes were told, %d were not", told, missed)
	}
}

// P7.3: two neighbours that changed places are told, unless they differ by 7; if one is the check digit, even then.
func TestNeighboursChanged(t *testing.T) {
	told, missed := 0, 0
	for _, x := range tickets() {
		s, _ := number.Text(x)
		for at := range size - 1 {
			a, b := s[at], s[at+1]
			other := s[:at] + string([]byte{b, a}) + s[at+2:]
			switch {
			case a == b:
				parses(t, other, x)
			case bySeven(a, b) && at+1 < size-1:
				unseen(t, s, other)
				missed++
			default:
				refuses(t, other, api.ErrCheck)
				told++
			}
		}
	}
	if told < 4000 || missed < 200 {
		t.Errorf("%d changes were told, %d were not", told, missed)
	}
}

// P7.3: changes by 7 that are not told by the check digit, by hand.
func TestSevensAreMissed(t *testing.T) {
	parses(t, "00700000000011", api.Ticket{Carrier: 7, Serial: 1})
	parses(t, "00000000000011", api.Ticket{Carrier: 0, Serial: 1})
	parses(t, "00000000000081", api.Ticket{Carrier: 0, Serial: 8})
	refuses(t, "70000000000011", api.ErrArg)
	refuses(t, "00000000000000", api.ErrArg)
	parses(t, "00000000000700", api.Ticket{Carrier: 0, Serial: 70})
	parses(t, "00000000000070", api.Ticket{Carrier: 0, Serial: 7})
	refuses(t, "00000000000007", api.ErrCheck)
}
