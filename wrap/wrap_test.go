package wrap_test

import (
	"math"
	"math/big"
	"reflect"
	"regexp"
	"slices"
	"strconv"
	"strings"
	"testing"

	"tarmac/api"
	"tarmac/edi"
	"tarmac/wrap"
)

// greatest is 2^64 - 1, and tooGreat one more.
const (
	greatest = "18446744073709551615"
	tooGreat = "18446744073709551616"
)

// between is how many segments there may be between head and tail.
const between = api.MaxSegs - 2

// seg is a segment of elements.
func seg(tag string, elems ...[]string) api.Segment {
	return api.Segment{Tag: tag, Elems: elems}
}

// el is an element of components.
func el(comps ...string) []string { return comps }

// times is a list of x, n times.
func times[T any](n int, x T) []T {
	var l []T
	for range n {
		l = append(l, x)
	}
	return l
}

// from1 is the interchange from 1 to 2 with the Ref 7 and the segments.
func from1(segs ...api.Segment) api.Wrap {
	return api.Wrap{From: 1, To: 2, Ref: 7, Segs: segs}
}

// same tells whether two interchanges are alike; nil and empty lists are.
func same(a, b api.Wrap) bool {
	return a.From == b.From && a.To == b.To && a.Ref == b.Ref && slices.EqualFunc(a.Segs, b.Segs, func(x, y api.Segment) bool {
		return x.Tag == y.Tag && slices.EqualFunc(x.Elems, y.Elems, slices.Equal[[]string])
	})
}

// short is a text, cut down to what can be looked at.
func short(text string) string {
	if len(text) > 90 {
		return text[:45] + ".." + text[len(text)-45:]
	}
	return text
}

// parses fails unless the text is read as the interchange.
func parses(t *testing.T, text string, want api.Wrap) {
	t.Helper()
	if w, e := wrap.Parse(text); e != api.OK || !same(w, want) {
		t.Errorf("Parse(%q) = %.200v, %v; want %.200v", short(text), w, e, want)
	}
}

// refuses fails unless the text is refused by the error, with nothing beside it.
func refuses(t *testing.T, text string, want api.Errno) {
	t.Helper()
	if w, e := wrap.Parse(text); e != want || !same(w, api.Wrap{}) {
		t.Errorf("Parse(%q) = %.200v, %v; want %v", short(text), w, e, want)
	}
}

// prints fails unless the interchange is told by the text.
func prints(t *testing.T, w api.Wrap, want string) {
	t.Helper()
	if text, e := wrap.Print(w); e != api.OK || text != want {
		t.Errorf("Print(%.200v) = %q, %v; want %q", w, short(text), e, short(want))
	}
}

// unprinted fails unless the interchange is refused by the error, with nothing beside it.
func unprinted(t *testing.T, name string, want api.Errno, w api.Wrap) {
	t.Helper()
	if text, e := wrap.Print(w); e != want || text != "" {
		t.Errorf("Print, %s: %q, %v; want %v", name, short(text), e, want)
	}
}

// text is an interchange's text by the elements of its head and tail, with what is between.
func text(from, to, ref, segs, count, again string) string {
	return "UNB+" + from + "+" + to + "+" + ref + "'" + segs + "UNZ+" + count + "+" + again + "'"
}

// P4.1, P4.2: the document's examples.
func TestExamples(t *testing.T) {
	parses(t, "UNB+1+2+7'ABC'UNZ+1+7'", from1(seg("ABC")))
	refuses(t, "UNB+1+2+7'UNZ+1+7'", api.ErrCount)
	refuses(t, "UNB+1+2+7'UNZ+0+8'", api.ErrRef)
	refuses(t, "UNB+1+2+7'UNZ+0+07'", api.ErrHead)
	refuses(t, "UNB+8+2+7'UNZ+0+7'", api.ErrHead)
	prints(t, from1(), "UNB+1+2+7'UNZ+0+7'")
}

// P4.1: what is between may be any segments, heads and tails too.
func TestParse(t *testing.T) {
	parses(t, "UNB+1+2+7'UNZ+0+7'", from1())
	parses(t, "UNB+1+2+7'ABC+x'UNZ+1+7'", from1(seg("ABC", el("x"))))
	parses(t, "UNB+1+2+7'\nABC+x:+?''\n\nD12'\nUNZ+2+7'\n\n", from1(seg("ABC", el("x", ""), el("'")), seg("D12")))
	parses(t, "UNB+1+2+7'UNB+1+2+7'UNZ+0+7'UNZ+2+7'", from1(seg("UNB", el("1"), el("2"), el("7")), seg("UNZ", el("0"), el("7"))))
	parses(t, "UNB+1+2+7'UNZ'UNB+x'UNZ+2+7'", from1(seg("UNZ"), seg("UNB", el("x"))))
	parses(t, "UNB+3+3+0'UNZ+0+0'", api.Wrap{From: 3, To: 3})
}

// P4.1: as many segments between as there may be, and one more, which is one too many for edi.
func TestParseHowMany(t *testing.T) {
	for n := range between + 1 {
		many := strings.Repeat("ABC'", n)
		parses(t, text("1", "2", "7", many, strconv.Itoa(n), "7"), from1(times(n, seg("ABC"))...))
		refuses(t, text("1", "2", "7", many, strconv.Itoa(n+1), "7"), api.ErrCount)
		if n > 0 {
			refuses(t, text("1", "2", "7", many, strconv.Itoa(n-1), "7"), api.ErrCount)
			refuses(t, text("1", "2", "7", many, "0", "7"), api.ErrCount)
		}
	}
	refuses(t, text("1", "2", "7", strings.Repeat("ABC'", between+1), strconv.Itoa(between+1), "7"), api.ErrLong)
	refuses(t, text("1", "2", "7", strings.Repeat("ABC'", between+1), strconv.Itoa(between), "7"), api.ErrLong)
}

// P4.1: edi's errors, each of them, ahead of all that is wrong with head, count and tail.
func TestParseEdiErrors(t *testing.T) {
	for _, x := range []struct {
		text string
		want api.Errno
	}{
		{"UNB+1+2+7'UNZ+0+7", api.ErrEnd},
		{"UNB+1+2+7'UN", api.ErrEnd},
		{"UNB", api.ErrEnd},
		{"UNB+8+2+7'UNZ+1+8", api.ErrEnd},
		{"\n", api.ErrSign},
		{"\nUNB+1+2+7'UNZ+0+7'", api.ErrSign},
		{"UNB+1+2+7'\x00'UNZ+1+7'", api.ErrSign},
		{"UNB+8+2+7'UNZ+1+8+?x'", api.ErrSign},
		{"unb+1+2+7'UNZ+0+7'", api.ErrSign},
		{"UNB+1+2+\x807'UNZ+0+7'", api.ErrSign},
		{"UNB" + strings.Repeat("+1", api.MaxElems+1) + "'", api.ErrLong},
		{"UNB+1+2+7'ABC+" + strings.Repeat("x", api.MaxText+1) + "'UNZ+1+7'", api.ErrLong},
		{"UNB+1+2+7'UNZ+0+7'" + strings.Repeat("\n", api.MaxBytes), api.ErrLong},
		{strings.Repeat("ABC'", api.MaxSegs+1), api.ErrLong},
		{strings.Repeat("\x00", api.MaxBytes+1), api.ErrLong},
	} {
		refuses(t, x.text, x.want)
	}
	parses(t, "UNB+1+2+7'UNZ+0+7'"+strings.Repeat("\n", api.MaxBytes-18), from1())
}

// P4.1: no head, no tail, or other ones.
func TestParseHead(t *testing.T) {
	for _, text := range []string{
		"", // none at all
		"ABC'",
		"ABC'DEF'",
		"UNB+1+2+7'", // a head alone, a tail alone: the last segment must be another one
		"UNZ+0+7'",
		"UNB+0+7'",
		"UNZ+1+2+7'",
		"UNZ+0+7'UNB+1+2+7'", // each in the other one's place
		"UNB+1+2+7'UNB+1+2+7'",
		"UNZ+0+7'UNZ+0+7'",
		"ABC'UNB+1+2+7'UNZ+0+7'", // something ahead, something behind
		"UNB+1+2+7'UNZ+0+7'ABC'",
		"UNB+1+2+7'UNZ+0+7'UNB+1+2+7'",
		"UNA+1+2+7'UNZ+0+7'", // other tags
		"UNC+1+2+7'UNZ+0+7'",
		"BUN+1+2+7'UNZ+0+7'",
		"UNB+1+2+7'UNY+0+7'",
		"UNB+1+2+7'UNB+0+7'",
		"UNB'UNZ+0+7'", // an element less, an element more
		"UNB+1'UNZ+0+7'",
		"UNB+1+2'UNZ+0+7'",
		"UNB+1+2+7+7'UNZ+0+7'",
		"UNB+1+2+7+'UNZ+0+7'",
		"UNB++1+2+7'UNZ+0+7'",
		"UNB" + strings.Repeat("+1", api.MaxElems) + "'UNZ+0+7'",
		"UNB+1+2+7'UNZ'",
		"UNB+1+2+7'UNZ+0'",
		"UNB+1+2+7'UNZ+0+7+7'",
		"UNB+1+2+7'UNZ+0+7+'",
		"UNB+1+2+7'UNZ+0++7'",
		"UNB+1+2+7'UNZ" + strings.Repeat("+0", api.MaxElems) + "'",
		"UNB+1:1+2+7'UNZ+0+7'", // an element of two components, or more
		"UNB+1:+2+7'UNZ+0+7'",
		"UNB+:1+2+7'UNZ+0+7'",
		"UNB+1+2:2+7'UNZ+0+7'",
		"UNB+1+2+7:7'UNZ+0+7'",
		"UNB+1+2+7:'UNZ+0+7:'",
		"UNB+1:2:7'UNZ+0+7'",
		"UNB+1+2+7'UNZ+0:0+7'",
		"UNB+1+2+7'UNZ+0+7:7'",
		"UNB+1+2+7'UNZ+0+:7'",
		"UNB+1+2+7'UNZ+0:7'",
		"UNB+1+2+7'UNZ+0+7:::::::'",
	} {
		refuses(t, text, api.ErrHead)
	}
}

// P4.1: each of the five elements: what is no number, or one that is too great.
func TestParseNumbers(t *testing.T) {
	wrong := []string{"", "00", "01", "07", "007", "0" + greatest, "x", "7x", "x7", " 7", "7 ", "1 1", "?+7", "-7", "-0", "-", "7.0", "7e0", "0x7", "0b1", "1_0", "1,0", "/", "@", "a", "?:", "?'", "??", tooGreat, "18446744073709551620", "18446744073709551623", "20000000000000000000", "99999999999999999999", "100000000000000000000", "184467440737095516150", strings.Repeat("9", api.MaxText), "1" + strings.Repeat("0", api.MaxText-1)}
	for i := range 5 {
		for _, one := range wrong {
			elems := []string{"1", "2", "7", "0", "7"}
			elems[i] = one
			refuses(t, text(elems[0], elems[1], elems[2], "", elems[3], elems[4]), api.ErrHead)
		}
	}
	for _, ref := range wrong {
		refuses(t, text("1", "2", ref, "", "0", ref), api.ErrHead)
	}
}

// P4.1: each byte that a component may have, as a number, ahead of a digit, between digits and behind one.
func TestParseEachByte(t *testing.T) {
	for c := byte(32); c <= 126; c++ {
		sign := string(c)
		if strings.Contains("+:'?", sign) {
			sign = "?" + sign
		}
		for _, ref := range []string{sign, sign + "3", "3" + sign + "3", "3" + sign} {
			whole := text("1", "2", ref, "", "0", ref)
			if c < '0' || c > '9' || ref == "03" {
				refuses(t, whole, api.ErrHead)
				refuses(t, text("1", "2", "3", "", ref, "3"), api.ErrHead)
				continue
			}
			n, _ := strconv.ParseUint(ref, 10, 64)
			parses(t, whole, api.Wrap{From: 1, To: 2, Ref: n})
		}
	}
}

// P4.1: Refs of all sizes, up to 2^64 - 1; a count that is a number, but never right.
func TestParseRefs(t *testing.T) {
	refs := []uint64{math.MaxUint64, math.MaxUint64 - 1, math.MaxUint64 - 5, math.MaxUint64 - 6, math.MaxInt64, math.MaxInt64 + 1, math.MaxUint32, math.MaxUint32 + 1}
	for i := range uint64(64) {
		refs = append(refs, 1<<i-1, 1<<i, 1<<i+1)
	}
	for n := uint64(1); n <= 1e19/10; n *= 10 {
		refs = append(refs, n-1, n, n+1, 10*n)
	}
	for n := range uint64(1000) {
		refs = append(refs, n, math.MaxUint64-n)
	}
	for _, ref := range refs {
		one := strconv.FormatUint(ref, 10)
		parses(t, text("0", "7", one, "ABC'", "1", one), api.Wrap{To: 7, Ref: ref, Segs: []api.Segment{seg("ABC")}})
		refuses(t, text("0", "7", one, "ABC'", "1", strconv.FormatUint(ref+1, 10)), api.ErrRef)
		if ref != 1 {
			refuses(t, text("0", "7", one, "ABC'", one, one), api.ErrCount)
		}
	}
	for _, count := range []string{"256", "257", "65537", "4294967297", "9223372036854775809", greatest} {
		refuses(t, text("1", "2", "7", "ABC'", count, "7"), api.ErrCount)
	}
	refuses(t, text("1", "2", "7", "ABC'", tooGreat, "7"), api.ErrHead)
	refuses(t, text("1", "2", "7", "ABC'", "18446744073709551617", "7"), api.ErrHead)
}

// P4.1: From and To below MaxCarriers, and not below it; none of them goes round.
func TestParseCarriers(t *testing.T) {
	for n := range 600 {
		one := strconv.Itoa(n)
		if n < api.MaxCarriers {
			parses(t, text(one, "2", "7", "", "0", "7"), api.Wrap{From: uint8(n), To: 2, Ref: 7})
			parses(t, text("1", one, "7", "", "0", "7"), api.Wrap{From: 1, To: uint8(n), Ref: 7})
			continue
		}
		refuses(t, text(one, "2", "7", "", "0", "7"), api.ErrHead)
		refuses(t, text("1", one, "7", "", "0", "7"), api.ErrHead)
	}
	for _, one := range []string{"65536", "65537", "4294967297", greatest, tooGreat, "18446744073709551617"} {
		refuses(t, text(one, "2", "7", "", "0", "7"), api.ErrHead)
		refuses(t, text("1", one, "7", "", "0", "7"), api.ErrHead)
	}
}

// P4.1: both ends of each text of a small alphabet as an element, judged by forms.
func TestParseAllShortNumbers(t *testing.T) {
	form := regexp.MustCompile(`^(0|[1-9][0-9]*)$`)
	each := func(do func(string)) {
		signs := []string{"0", "1", "8", "9", "/", "?:", "a", "-", " "}
		for _, a := range append(signs, "") {
			for _, b := range append(signs, "") {
				for _, c := range signs {
					do(a + b + c)
				}
			}
		}
	}
	each(func(one string) {
		n, _ := strconv.Atoi(one)
		isNumber := form.MatchString(one)
		if !isNumber {
			refuses(t, text(one, "2", "7", "", "0", "7"), api.ErrHead)
			refuses(t, text("1", one, "7", "", "0", "7"), api.ErrHead)
			refuses(t, text("1", "2", one, "", "0", one), api.ErrHead)
			refuses(t, text("1", "2", "7", "", one, "7"), api.ErrHead)
			refuses(t, text("1", "2", "7", "", "0", one), api.ErrHead)
			return
		}
		parses(t, text("1", "2", one, "", "0", one), api.Wrap{From: 1, To: 2, Ref: uint64(n)})
		if n != 0 {
			refuses(t, text("1", "2", "7", "", one, "7"), api.ErrCount)
			refuses(t, text("1", "2", "7", "", "0", one), api.ErrRef)
		}
	})
}

// P4.1: numbers about 2^64, judged by numbers of any size.
func TestParseAboutTheGreatest(t *testing.T) {
	n, _ := new(big.Int).SetString(greatest, 10)
	n.Sub(n, big.NewInt(300))
	for range 600 {
		if one := n.String(); n.IsUint64() {
			parses(t, text("1", "2", one, "", "0", one), api.Wrap{From: 1, To: 2, Ref: n.Uint64()})
		} else {
			refuses(t, text("1", "2", one, "", "0", one), api.ErrHead)
		}
		n.Add(n, big.NewInt(1))
	}
}

// P4.1: ErrHead ahead of ErrCount ahead of ErrRef.
func TestParseOrder(t *testing.T) {
	refuses(t, "UNB+8+2+7'UNZ+1+8'", api.ErrHead)
	refuses(t, "UNB+1+2+7'UNZ+1+08'", api.ErrHead)
	refuses(t, "UNB+1+2+7'UNZ+01+8'", api.ErrHead)
	refuses(t, "UNB+1+2+7'UNZ+1+8'", api.ErrCount)
	refuses(t, "UNB+1+2+7'ABC'UNZ+0+8'", api.ErrCount)
	refuses(t, "UNB+1+2+7'ABC'UNZ+1+8'", api.ErrRef)
	refuses(t, "UNB+1+2+7'UNZ+7+0'", api.ErrCount)
	refuses(t, "UNB+1+2+0'UNZ+0+1'", api.ErrRef)
	refuses(t, "UNB+1+2+1'UNZ+0+2'", api.ErrRef)
}

// P4.2: ordinary interchanges.
func TestPrint(t *testing.T) {
	prints(t, api.Wrap{}, "UNB+0+0+0'UNZ+0+0'")
	prints(t, api.Wrap{Segs: []api.Segment{}}, "UNB+0+0+0'UNZ+0+0'")
	prints(t, from1(seg("ABC", el("x"))), "UNB+1+2+7'ABC+x'UNZ+1+7'")
	prints(t, from1(seg("ABC", el("x", ""), el("'+")), seg("D12")), "UNB+1+2+7'ABC+x:+?'?+'D12'UNZ+2+7'")
	prints(t, from1(seg("UNZ", el("0"), el("7")), seg("UNB")), "UNB+1+2+7'UNZ+0+7'UNB'UNZ+2+7'")
	prints(t, api.Wrap{From: 7, To: 7, Ref: math.MaxUint64}, "UNB+7+7+"+greatest+"'UNZ+0+"+greatest+"'")
	for n := range between + 1 {
		prints(t, from1(times(n, seg("ABC"))...), text("1", "2", "7", strings.Repeat("ABC'", n), strconv.Itoa(n), "7"))
	}
}

// P4.2: From and To, each of the 256.
func TestPrintArg(t *testing.T) {
	for n := range 256 {
		from, to := api.Wrap{From: uint8(n), To: 2, Ref: 7}, api.Wrap{From: 1, To: uint8(n), Ref: 7}
		if n < api.MaxCarriers {
			prints(t, from, text(strconv.Itoa(n), "2", "7", "", "0", "7"))
			prints(t, to, text("1", strconv.Itoa(n), "7", "", "0", "7"))
			continue
		}
		unprinted(t, "From "+strconv.Itoa(n), api.ErrArg, from)
		unprinted(t, "To "+strconv.Itoa(n), api.ErrArg, to)
	}
}

// P4.2: a segment more than there may be, and many.
func TestPrintLong(t *testing.T) {
	for _, n := range []int{between + 1, between + 2, between + 3, 10 * between} {
		unprinted(t, strconv.Itoa(n)+" segments", api.ErrLong, from1(times(n, seg("ABC"))...))
	}
}

// P4.2: edi's errors.
func TestPrintEdiErrors(t *testing.T) {
	unprinted(t, "a tag that is none", api.ErrArg, from1(seg("")))
	unprinted(t, "a tag that is none behind others", api.ErrArg, from1(seg("ABC"), seg("AB+")))
	unprinted(t, "an element without components", api.ErrArg, from1(seg("ABC", nil)))
	unprinted(t, "a byte that may not be", api.ErrSign, from1(seg("ABC", el("\n"))))
	unprinted(t, "a byte above those that may be", api.ErrSign, from1(seg("ABC"), seg("ABC", el("a", "\x7f"))))
	unprinted(t, "an element more", api.ErrLong, from1(seg("ABC", times(api.MaxElems+1, el(""))...)))
	unprinted(t, "a component more", api.ErrLong, from1(seg("ABC", times(api.MaxComps+1, ""))))
	unprinted(t, "a byte more", api.ErrLong, from1(seg("ABC", el(strings.Repeat("x", api.MaxText+1)))))
}

// P4.2: a text of MaxBytes bytes, and of one more; head and tail count.
func TestPrintMaxBytes(t *testing.T) {
	size := len("UNB+1+2+7'UNZ+34+7'")
	var l []api.Segment
	for range 32 {
		l = append(l, seg("ABC", times(7, strings.Repeat("x", api.MaxText))))
	}
	size += 32*len("ABC+::::::'") + 32*7*api.MaxText
	for left := api.MaxBytes - size; left > 0; {
		n := min(left, 4000)
		left -= n
		n -= len("ABC+:::::::+:::::::'")
		var comps [16]string
		for i := range comps {
			comps[i] = strings.Repeat("y", n/(16-i))
			n -= len(comps[i])
		}
		l = append(l, seg("ABC", comps[:8], comps[8:]))
	}
	if len(l) != 34 {
		t.Fatalf("%d segments", len(l))
	}
	text, e := wrap.Print(from1(l...))
	if e != api.OK || len(text) != api.MaxBytes {
		t.Fatalf("Print: %d bytes, %v", len(text), e)
	}
	parses(t, text, from1(l...))
	unprinted(t, "a digit more", api.ErrLong, api.Wrap{From: 1, To: 2, Ref: 10, Segs: l})
	last := l[33].Elems[0]
	last[0] = "+" + last[0][1:]
	unprinted(t, "a ? more", api.ErrLong, from1(l...))
}

// P4.2: ErrArg of From and To ahead of ErrLong ahead of edi's errors.
func TestPrintOrder(t *testing.T) {
	many := times(between+1, seg(""))
	unprinted(t, "From, and too many that are none", api.ErrArg, api.Wrap{From: 8, Segs: many})
	unprinted(t, "To, and a byte that may not be", api.ErrArg, api.Wrap{To: 8, Segs: []api.Segment{seg("ABC", el("\n"))}})
	unprinted(t, "too many that are none", api.ErrLong, from1(many...))
	unprinted(t, "too many, and a byte that may not be", api.ErrLong, from1(times(between+1, seg("ABC", el("\n")))...))
	unprinted(t, "as many as may be, that are none", api.ErrArg, from1(many[:between]...))
	unprinted(t, "more than edi takes, that are none", api.ErrLong, from1(times(api.MaxSegs+1, seg(""))...))
}

// dice is numbers that do not repeat soon, the same in each run.
type dice uint32

// below is a number below n.
func (d *dice) below(n int) int {
	*d = *d*1664525 + 1013904223
	return int(*d>>8) % n
}

// wrap is an interchange with any segments, heads and tails too.
func (d *dice) wrap() api.Wrap {
	w := api.Wrap{From: uint8(d.below(8)), To: uint8(d.below(8)), Ref: uint64(d.below(1<<20)) << d.below(45)}
	for range d.below(between + 1) {
		s := seg([]string{"ABC", "UNB", "UNZ", "099"}[d.below(4)])
		for range d.below(4) {
			var comps []string
			for range 1 + d.below(3) {
				comps = append(comps, []string{"", "0", "7", "a b", "+:'?", "UNZ+0+7'", "??"}[d.below(7)])
			}
			s.Elems = append(s.Elems, comps)
		}
		w.Segs = append(w.Segs, s)
	}
	return w
}

// P4.3: what is printed is parsed as it was, with bytes 10 behind each segment too; what is parsed is printed as the text without them.
func TestPrintedIsParsed(t *testing.T) {
	d := dice(1)
	for range 500 {
		w := d.wrap()
		text, e := wrap.Print(w)
		if e != api.OK {
			t.Fatalf("Print(%v): %v", w, e)
		}
		parses(t, text, w)
		segs, _, _ := edi.Parse(text)
		lines := ""
		for _, s := range segs {
			one, _ := edi.Print([]api.Segment{s})
			lines += one + strings.Repeat("\n", d.below(3))
		}
		parses(t, lines, w)
		if back, e := wrap.Parse(lines); e == api.OK {
			prints(t, back, strings.ReplaceAll(lines, "\n", ""))
		}
	}
}

// P4.3: texts with a byte changed, left out or put in: if they are parsed, they are printed as they are.
func TestParsedIsPrinted(t *testing.T) {
	d := dice(2)
	right, wrong := 0, 0
	for range 20000 {
		text, _ := wrap.Print(from1())
		if d.below(2) == 0 {
			text, _ = wrap.Print(d.wrap())
		}
		at := d.below(len(text))
		text = text[:at] + []string{"", "0", "1", "9", "+", ":", "'", "?", "\n", "ABC'"}[d.below(10)] + text[at+d.below(2):]
		w, e := wrap.Parse(text)
		if e != api.OK {
			wrong++
			if !same(w, api.Wrap{}) {
				t.Fatalf("Parse(%q) = %v, %v", text, w, e)
			}
			continue
		}
		right++
		prints(t, w, strings.ReplaceAll(text, "\n", ""))
	}
	if right < 500 || wrong < 500 {
		t.Errorf("%d texts were right, %d wrong", right, wrong)
	}
}

// P4.4: each of the segments between left out, or one more put in at each place.
func TestOneLessOneMore(t *testing.T) {
	d := dice(3)
	for range 60 {
		w := d.wrap()
		whole, _ := wrap.Print(w)
		segs, _, _ := edi.Parse(whole)
		for at := 1; at < len(segs)-1; at++ {
			less, _ := edi.Print(slices.Delete(slices.Clone(segs), at, at+1))
			refuses(t, less, api.ErrCount)
		}
		if len(segs) == api.MaxSegs {
			continue
		}
		for at := 1; at < len(segs); at++ {
			for _, s := range []api.Segment{segs[at-1], segs[at], seg("XYZ")} {
				more, _ := edi.Print(slices.Insert(slices.Clone(segs), at, s))
				refuses(t, more, api.ErrCount)
			}
		}
	}
}

// R2: what was parsed or printed leaves nothing behind for the next call.
func TestAgain(t *testing.T) {
	text := "UNB+1+2+7'ABC+x'UNZ+1+7'"
	for _, other := range []string{"UNB+3+4+9'UNZ+0+9'", "UNB+3+4+9'UNZ+0+8'", "UNB+3+4+9'UNZ+1+9'", "UNB+3+4'UNZ+0+9'", "", "UNB"} {
		wrap.Parse(other)
		parses(t, text, from1(seg("ABC", el("x"))))
	}
	wrap.Print(api.Wrap{From: 9})
	prints(t, from1(seg("ABC", el("x"))), text)
}

// R3: what is printed is not changed, nor the room behind the lists' ends.
func TestPrintLeavesItsLists(t *testing.T) {
	make1 := func() []api.Segment {
		comps := []string{"a", "b?", "room", "room"}
		elems := [][]string{comps[:2], {"c"}, {"room"}}
		return []api.Segment{{Tag: "ABC", Elems: elems[:2]}, {Tag: "DEF"}, {Tag: "ROOM"}, {Tag: "ROOM"}}
	}
	l, was := make1(), make1()
	prints(t, from1(l[:2]...), "UNB+1+2+7'ABC+a:b??+c'DEF'UNZ+2+7'")
	prints(t, api.Wrap{Segs: l[:0]}, "UNB+0+0+0'UNZ+0+0'")
	if !reflect.DeepEqual(l, was) || !reflect.DeepEqual(l[0].Elems[:3], was[0].Elems[:3]) || !reflect.DeepEqual(l[0].Elems[0][:4], was[0].Elems[0][:4]) {
		t.Errorf("%q became %q", was, l)
	}
}

// R3: what is written into an answer, and into its spare room, shows in no later one, nor in its other lists.
func TestParsedListsAreNew(t *testing.T) {
	text := "UNB+1+2+7'ABC+a:b+c'DEF+d'GHI'UNZ+3+7'"
	want := from1(seg("ABC", el("a", "b"), el("c")), seg("DEF", el("d")), seg("GHI"))
	w, _ := wrap.Parse(text)
	more := w.Segs
	for range 8 {
		more = append(more, seg("MORE"))
	}
	for i := range w.Segs {
		for j := range w.Segs[i].Elems {
			_ = append(w.Segs[i].Elems[j], "more", "more")
		}
		_ = append(w.Segs[i].Elems, el("more"), el("more"))
	}
	if !same(w, want) {
		t.Errorf("what was written behind the lists' ends shows: %q", w.Segs)
	}
	for i := range w.Segs {
		for j := range w.Segs[i].Elems {
			clear(w.Segs[i].Elems[j])
		}
		clear(w.Segs[i].Elems)
	}
	clear(w.Segs)
	parses(t, text, want)
}

// R3: the tail is no part of the answer, nor of its spare room.
func TestParsedHasNoTail(t *testing.T) {
	for _, text := range []string{"UNB+1+2+7'UNZ+0+7'", "UNB+1+2+7'ABC'UNZ+1+7'", "UNB+1+2+7'ABC'DEF'UNZ+2+7'"} {
		w, _ := wrap.Parse(text)
		for _, s := range w.Segs[len(w.Segs):cap(w.Segs)] {
			if s.Tag != "" {
				t.Errorf("Parse(%q): behind the end stands %v", text, s)
			}
		}
	}
}
