package edi_test

import (
	"reflect"
	"regexp"
	"slices"
	"strings"
	"testing"
	"unsafe"

	"tarmac/api"
	"tarmac/edi"
)

// seg is a segment of elements.
func seg(tag string, elems ...[]string) api.Segment {
	return api.Segment{Tag: tag, Elems: elems}
}

// el is an element of components.
func el(comps ...string) []string { return comps }

// same tells whether two lists of segments are alike; nil and empty lists are.
func same(a, b []api.Segment) bool {
	return slices.EqualFunc(a, b, func(x, y api.Segment) bool {
		return x.Tag == y.Tag && slices.EqualFunc(x.Elems, y.Elems, slices.Equal[[]string])
	})
}

// times is a list of x, n times.
func times[T any](n int, x T) []T {
	var l []T
	for range n {
		l = append(l, x)
	}
	return l
}

// short is a text, cut down to what can be looked at.
func short(text string) string {
	if len(text) > 60 {
		return text[:30] + ".." + text[len(text)-30:]
	}
	return text
}

// parses fails unless the text is read as the segments.
func parses(t *testing.T, text string, want []api.Segment) {
	t.Helper()
	if l, at, e := edi.Parse(text); e != api.OK || at != 0 || !same(l, want) {
		t.Errorf("Parse(%q) = %q, %d, %v; want %q", short(text), l, at, e, want)
	}
}

// refuses fails unless the text is refused by the error at the place, with nothing beside it.
func refuses(t *testing.T, text string, place int, want api.Errno) {
	t.Helper()
	if l, at, e := edi.Parse(text); e != want || at != place || len(l) != 0 {
		t.Errorf("Parse(%q) = %d segments, %d, %v; want %d, %v", short(text), len(l), at, e, place, want)
	}
	if _, at, e := edi.Parse(text[:min(place, len(text))]); place > 0 && e != api.OK && (e != api.ErrEnd || at != place) {
		t.Errorf("Parse(%q), cut off at %d: %d, %v", short(text), place, at, e)
	}
}

// prints fails unless the segments are told by the text.
func prints(t *testing.T, l []api.Segment, want string) {
	t.Helper()
	if text, e := edi.Print(l); e != api.OK || text != want {
		t.Errorf("Print(%.100q) = %q, %v; want %q", l, short(text), e, short(want))
	}
}

// unprinted fails unless the segments are refused by the error.
func unprinted(t *testing.T, name string, want api.Errno, l ...api.Segment) {
	t.Helper()
	if text, e := edi.Print(l); e != want || text != "" {
		t.Errorf("Print, %q: %q, %v; want %v", name, short(text), e, want)
	}
}

// full is segments whose text has n bytes, 10,000 or more: at most 64 segments of one element each.
func full(n int) []api.Segment {
	var l []api.Segment
	left := n
	for left > 0 {
		size := min(left, 2000)
		if rest := left - size; rest > 0 && rest < 20 {
			size -= 20
		}
		left -= size
		size -= len("SEG+:::::::'")
		var comps []string
		for i := range api.MaxComps {
			part := size / (api.MaxComps - i)
			comps = append(comps, strings.Repeat("x", part))
			size -= part
		}
		l = append(l, seg("SEG", comps))
	}
	return l
}

// textOf is the text of segments whose components have no signs, by the library's own means.
func textOf(l []api.Segment) string {
	text := ""
	for _, s := range l {
		text += s.Tag
		for _, comps := range s.Elems {
			text += "+" + strings.Join(comps, ":")
		}
		text += "'"
	}
	return text
}

// P3.1: the document's examples.
func TestParseExamples(t *testing.T) {
	refuses(t, "ABC+a:b+?+' D12'", 11, api.ErrSign)
	parses(t, "ABC+a:b+?+'D12'", []api.Segment{seg("ABC", el("a", "b"), el("+")), seg("D12")})
	refuses(t, "AB+'", 2, api.ErrSign)
	refuses(t, "ABC", 3, api.ErrEnd)
	refuses(t, "ABC+?a'", 5, api.ErrSign)
	parses(t, "", nil)
}

// P3.1: segments, elements and components, none of them, empty ones.
func TestParse(t *testing.T) {
	for text, want := range map[string][]api.Segment{
		"ABC'":                 {seg("ABC")},
		"000'ZZZ'9AZ'":         {seg("000"), seg("ZZZ"), seg("9AZ")},
		"ABC+'":                {seg("ABC", el(""))},
		"ABC++'":               {seg("ABC", el(""), el(""))},
		"ABC+:'":               {seg("ABC", el("", ""))},
		"ABC+::+a:'":           {seg("ABC", el("", "", ""), el("a", ""))},
		"ABC++a:'":             {seg("ABC", el(""), el("a", ""))},
		"ABC+:a:+:'":           {seg("ABC", el("", "a", ""), el("", ""))},
		"ABC+a'DEF+b:c+d'GHI'": {seg("ABC", el("a")), seg("DEF", el("b", "c"), el("d")), seg("GHI")},
		"ABC+ABC'ABC+ABC'":     {seg("ABC", el("ABC")), seg("ABC", el("ABC"))},
		"ABC+ ~ +a b'":         {seg("ABC", el(" ~ "), el("a b"))},
		"ABC+?+?:?'??'":        {seg("ABC", el("+:'?"))},
		"ABC+????:?':a?+b'":    {seg("ABC", el("??", "'", "a+b"))},
		"ABC+???''":            {seg("ABC", el("?'"))},
		"ABC+a'\nDEF+b'":       {seg("ABC", el("a")), seg("DEF", el("b"))},
		"ABC'\n\n\nDEF'\n\n":   {seg("ABC"), seg("DEF")},
		"ABC'\n":               {seg("ABC")},
	} {
		parses(t, text, want)
	}
}

// P3.1: each sign behind a ?, at the front, in the midst and at the end of a component.
func TestParseEachSign(t *testing.T) {
	for _, sign := range []string{"+", ":", "'", "?"} {
		parses(t, "ABC+?"+sign+"'", []api.Segment{seg("ABC", el(sign))})
		parses(t, "ABC+?"+sign+"ab:a?"+sign+"b:ab?"+sign+"'", []api.Segment{seg("ABC", el(sign+"ab", "a"+sign+"b", "ab"+sign))})
	}
}

// P3.1, P3.4: a byte that may not stand where it stands, each of the 256 at each kind of place.
func TestParseEachByte(t *testing.T) {
	tag := func(c byte) bool { return c >= 'A' && c <= 'Z' || c >= '0' && c <= '9' }
	sign := func(c byte) bool { return strings.IndexByte("+:'?", c) >= 0 }
	comp := func(c byte) bool { return c >= 32 && c <= 126 }
	for _, x := range []struct {
		ahead string
		may   func(byte) bool
	}{
		{"", tag},
		{"A", tag},
		{"AB", tag},
		{"ABC", func(c byte) bool { return c == '+' || c == '\'' }},
		{"ABC+", comp},
		{"ABC+a", comp},
		{"ABC+a:", comp},
		{"ABC+a+", comp},
		{"ABC+?", sign},
		{"ABC+a:b?", sign},
		{"ABC+??", comp},
		{"ABC'", func(c byte) bool { return tag(c) || c == 10 }},
		{"ABC'\n", func(c byte) bool { return tag(c) || c == 10 }},
		{"ABC'\n\nD", tag},
		{"ABC+a'DEF", func(c byte) bool { return c == '+' || c == '\'' }},
	} {
		for c := range 256 {
			text := x.ahead + string([]byte{byte(c)})
			if !x.may(byte(c)) {
				refuses(t, text, len(x.ahead), api.ErrSign)
				refuses(t, text+"ABC'", len(x.ahead), api.ErrSign)
			} else if _, at, e := edi.Parse(text); e == api.ErrEnd && at != len(text) || e != api.OK && e != api.ErrEnd {
				t.Errorf("Parse(%q) = %d, %v", text, at, e)
			}
		}
	}
}

// P3.1: a byte 10 says nothing behind a ' alone.
func TestParseNewlines(t *testing.T) {
	for text, place := range map[string]int{
		"\n":          0,
		"\n\n":        0,
		"\nABC'":      0,
		"A\nBC'":      1,
		"ABC\n'":      3,
		"ABC\n+a'":    3,
		"ABC+\n'":     4,
		"ABC+a\n'":    5,
		"ABC+?\n'":    5,
		"ABC'\nD\nEF": 6,
	} {
		refuses(t, text, place, api.ErrSign)
	}
	parses(t, "ABC'\n", []api.Segment{seg("ABC")})
	for _, c := range "\r\t \v\x00" {
		refuses(t, "ABC'"+string(c)+"DEF'", 4, api.ErrSign)
		refuses(t, "ABC'"+string(c), 4, api.ErrSign)
	}
}

// P3.1: a text that ends within a segment, wherever.
func TestParseEnd(t *testing.T) {
	whole := "ABC+a:?+b++c:'\n\nD12+?''EF3'"
	ends := map[int]bool{0: true, 14: true, 15: true, 16: true, 23: true, 27: true}
	for at := range len(whole) + 1 {
		if !ends[at] {
			refuses(t, whole[:at], at, api.ErrEnd)
		} else if _, place, e := edi.Parse(whole[:at]); e != api.OK || place != 0 {
			t.Errorf("Parse(%q) = %d, %v", whole[:at], place, e)
		}
	}
	refuses(t, "ABC+?'", 6, api.ErrEnd)
	refuses(t, "ABC+?", 5, api.ErrEnd)
	refuses(t, "ABC+??'D", 8, api.ErrEnd)
}

// P3.1: of several faults the first one in the order of the bytes.
func TestParseFirst(t *testing.T) {
	long := strings.Repeat("x", api.MaxText)
	refuses(t, "ABC+\x01+"+long+"y'", 4, api.ErrSign)
	refuses(t, "ABC+"+long+"y\x01", 4+api.MaxText, api.ErrLong)
	refuses(t, "ABC+?x"+long+"y", 5, api.ErrSign)
	refuses(t, "ab", 0, api.ErrSign)
	refuses(t, strings.Repeat("ABC'", api.MaxSegs)+"DEF+?x", 4*api.MaxSegs, api.ErrLong)
	refuses(t, "ABC"+strings.Repeat("+", api.MaxElems+1)+"\n", 3+api.MaxElems, api.ErrLong)
	refuses(t, "ABC+"+strings.Repeat(":", api.MaxComps)+"\n", 3+api.MaxComps, api.ErrLong)
}

// P3.1, R5: of a byte that is too much and may not stand there, ErrLong, which is named first; behind a ? a byte that is no sign is none of the component.
func TestParseTwoFaultsOfOneByte(t *testing.T) {
	long := strings.Repeat("x", api.MaxText)
	for _, c := range []string{"\n", "\x00", "\x1f", "\x7f", "\xff"} {
		refuses(t, "ABC+"+long+c, 4+api.MaxText, api.ErrLong)
		refuses(t, "ABC+"+long[1:]+c, 3+api.MaxText, api.ErrSign)
	}
	for _, c := range []string{" ", "a", "+", "'", "\x00"} {
		refuses(t, strings.Repeat("ABC'", api.MaxSegs)+c, 4*api.MaxSegs, api.ErrLong)
		refuses(t, strings.Repeat("ABC'", api.MaxSegs-1)+c, 4*(api.MaxSegs-1), api.ErrSign)
	}
	refuses(t, "ABC+"+long+"?x", 5+api.MaxText, api.ErrSign)
	refuses(t, "ABC+"+long+"?", 5+api.MaxText, api.ErrEnd)
}

// P3.1: MaxBytes, just reached and passed by one; behind them nothing else counts.
func TestParseMaxBytes(t *testing.T) {
	for _, n := range []int{api.MaxBytes - 1, api.MaxBytes} {
		l := full(n)
		if text := textOf(l); len(text) != n {
			t.Fatalf("%d bytes, not %d", len(text), n)
		} else {
			parses(t, text, l)
		}
	}
	refuses(t, textOf(full(api.MaxBytes+1)), 0, api.ErrLong)
	lines := "ABC'" + strings.Repeat("\n", api.MaxBytes-4)
	parses(t, lines, []api.Segment{seg("ABC")})
	refuses(t, lines+"\n", 0, api.ErrLong)
	refuses(t, "ABC+?x"+lines, 0, api.ErrLong)
	refuses(t, "ABC+?x"+lines[6:], 5, api.ErrSign)
	refuses(t, strings.Repeat("\x00", 1<<20), 0, api.ErrLong)
}

// P3.1: MaxSegs, just reached and passed by one.
func TestParseMaxSegs(t *testing.T) {
	for _, one := range []string{"ABC'", "ABC'\n"} {
		text := strings.Repeat(one, api.MaxSegs)
		parses(t, text, times(api.MaxSegs, seg("ABC")))
		parses(t, text+"\n\n", times(api.MaxSegs, seg("ABC")))
		refuses(t, text+"D", len(text), api.ErrLong)
		refuses(t, text+"DEF'", len(text), api.ErrLong)
		refuses(t, text+"\n\nDEF'", len(text)+2, api.ErrLong)
	}
}

// P3.1: MaxElems, just reached and passed by one, in each segment anew.
func TestParseMaxElems(t *testing.T) {
	for _, one := range []string{"", "a", "a:b"} {
		text := "ABC" + strings.Repeat("+"+one, api.MaxElems)
		want := seg("ABC", times(api.MaxElems, strings.Split(one, ":"))...)
		parses(t, text+"'"+text+"'", []api.Segment{want, want})
		refuses(t, text+"+'", len(text), api.ErrLong)
		refuses(t, text+"+", len(text), api.ErrLong)
		refuses(t, text+"'"+text+"+'", 2*len(text)+1, api.ErrLong)
	}
}

// P3.1: MaxComps, just reached and passed by one, in each element anew.
func TestParseMaxComps(t *testing.T) {
	for _, one := range []string{"", "a", "?:"} {
		elem := "+" + one + strings.Repeat(":"+one, api.MaxComps-1)
		comps := times(api.MaxComps, strings.TrimPrefix(one, "?"))
		parses(t, "ABC"+elem+elem+"'", []api.Segment{seg("ABC", comps, comps)})
		refuses(t, "ABC"+elem+":'", 3+len(elem), api.ErrLong)
		refuses(t, "ABC"+elem+elem+":", 3+2*len(elem), api.ErrLong)
	}
}

// P3.1: MaxText, just reached and passed by one, in each component anew; of ? and a sign the sign counts.
func TestParseMaxText(t *testing.T) {
	for _, one := range []string{"x", "?+", "?:", "?'", "??"} {
		text := strings.Repeat(one, api.MaxText)
		comp := strings.Repeat(one[len(one)-1:], api.MaxText)
		parses(t, "ABC+"+text+":"+text+"+"+text+"'", []api.Segment{seg("ABC", el(comp, comp), el(comp))})
		for _, more := range []string{"x", "?+", "?:", "?'", "??"} {
			refuses(t, "ABC+"+text+more+"'", 4+len(text)+len(more)-1, api.ErrLong)
			refuses(t, "ABC+"+text+":"+text+more+"'", 5+2*len(text)+len(more)-1, api.ErrLong)
		}
	}
}

// P3.2: the document's example, and other texts.
func TestPrint(t *testing.T) {
	prints(t, nil, "")
	prints(t, []api.Segment{}, "")
	prints(t, []api.Segment{seg("ABC", el(""), el("a", ""))}, "ABC++a:'")
	prints(t, []api.Segment{seg("ABC")}, "ABC'")
	prints(t, []api.Segment{{Tag: "09Z", Elems: [][]string{}}}, "09Z'")
	prints(t, []api.Segment{seg("ABC", el("a", "b"), el("+")), seg("D12")}, "ABC+a:b+?+'D12'")
	prints(t, []api.Segment{seg("ABC", el("+:'?", "??")), seg("DEF", el(" ~"))}, "ABC+?+?:?'??:????'DEF+ ~'")
	prints(t, []api.Segment{seg("ABC", el("", "", ""), el(""), el("", "x"))}, "ABC+::++:x'")
}

// P3.2: all bytes that a component may have, a ? ahead of the signs alone.
func TestPrintEachByte(t *testing.T) {
	for c := range 256 {
		comp := string([]byte{byte(c)})
		l := []api.Segment{seg("ABC", el("a"+comp+"b"))}
		switch {
		case c < 32 || c > 126:
			unprinted(t, "a byte "+comp, api.ErrSign, l...)
			unprinted(t, "a byte "+comp+" in the last component", api.ErrSign, seg("ABC"), seg("DEF", el("a"), el("", comp)))
		case strings.Contains("+:'?", comp):
			prints(t, l, "ABC+a?"+comp+"b'")
		default:
			prints(t, l, "ABC+a"+comp+"b'")
		}
	}
}

// P3.2: tags that are none, elements without components.
func TestPrintArg(t *testing.T) {
	for _, tag := range []string{"", "A", "AB", "ABCD", "abc", "ABc", "aBC", "AbC", "AB ", "A+C", "AB'", "AB?", "\nAB", "A\x00B", "@AB", "[AB", "/00", "00:", "AÉ", "É1"} {
		unprinted(t, "the tag "+tag, api.ErrArg, seg(tag))
		unprinted(t, "the tag "+tag, api.ErrArg, seg("ABC", el("a")), seg(tag, el("b")))
	}
	for _, none := range [][]string{nil, {}} {
		unprinted(t, "an element without components", api.ErrArg, seg("ABC", none))
		unprinted(t, "an element without components behind others", api.ErrArg, seg("ABC"), seg("DEF", el("a"), none))
		unprinted(t, "an element without components ahead of others", api.ErrArg, seg("ABC", none, el("a")), seg("DEF"))
	}
}

// P3.2: the limits, just reached and passed by one.
func TestPrintLimits(t *testing.T) {
	segs := times(api.MaxSegs, seg("ABC"))
	prints(t, segs, strings.Repeat("ABC'", api.MaxSegs))
	unprinted(t, "segments", api.ErrLong, append(segs, seg("ABC"))...)

	elems := times(api.MaxElems, el(""))
	prints(t, []api.Segment{seg("ABC", elems...)}, "ABC"+strings.Repeat("+", api.MaxElems)+"'")
	unprinted(t, "elements", api.ErrLong, seg("ABC", append(elems, el(""))...))
	unprinted(t, "elements of the last segment", api.ErrLong, seg("ABC"), seg("ABC", append(elems, el(""))...))

	comps := times(api.MaxComps, "")
	prints(t, []api.Segment{seg("ABC", comps)}, "ABC+"+strings.Repeat(":", api.MaxComps-1)+"'")
	unprinted(t, "components", api.ErrLong, seg("ABC", append(comps, "")))
	unprinted(t, "components of the last element", api.ErrLong, seg("ABC", comps, append(comps, "")))

	for _, c := range []string{"x", "+"} {
		long := strings.Repeat(c, api.MaxText)
		prints(t, []api.Segment{seg("ABC", el(long))}, "ABC+"+strings.ReplaceAll(long, "+", "?+")+"'")
		unprinted(t, "bytes of a component", api.ErrLong, seg("ABC", el(long+c)))
		unprinted(t, "bytes of the last component", api.ErrLong, seg("ABC", el(long, "")), seg("DEF", el("a"), el("", long+c)))
	}
}

// P3.2: MaxBytes, just reached and passed by one, by what is printed: a ? counts.
func TestPrintMaxBytes(t *testing.T) {
	for _, n := range []int{api.MaxBytes - 1, api.MaxBytes} {
		prints(t, full(n), textOf(full(n)))
	}
	unprinted(t, "bytes", api.ErrLong, full(api.MaxBytes+1)...)

	marked := full(api.MaxBytes - 1)
	comps := marked[0].Elems[0]
	comps[0] = "+" + comps[0][1:]
	if text, e := edi.Print(marked); e != api.OK || len(text) != api.MaxBytes {
		t.Errorf("a ? up to MaxBytes: %d bytes, %v", len(text), e)
	}
	comps[1] = "+" + comps[1][1:]
	unprinted(t, "a ? past MaxBytes", api.ErrLong, marked...)
	greatest := strings.Repeat("?", api.MaxText)
	unprinted(t, "all that is allowed one by one", api.ErrLong, times(api.MaxSegs, seg("ABC", times(api.MaxElems, times(api.MaxComps, greatest))...))...)
}

// P3.2: ErrArg ahead of ErrSign ahead of ErrLong, wherever they stand.
func TestPrintOrder(t *testing.T) {
	arg, none := seg("abc"), seg("ABC", nil)
	sign := seg("ABC", el("\n"))
	long := seg("ABC", el(strings.Repeat("x", api.MaxText+1)))
	many := times(api.MaxSegs, seg("ABC"))
	for _, l := range [][]api.Segment{{sign, arg}, {arg, sign}, {long, arg}, {arg, long}, {sign, long, none}, {none, sign, long}, append(slices.Clone(many), arg), append(slices.Clone(many), none)} {
		unprinted(t, "an argument that may not be, among others", api.ErrArg, l...)
	}
	for _, l := range [][]api.Segment{{sign, long}, {long, sign}, append(slices.Clone(many), sign), append(full(api.MaxBytes+1), sign)} {
		unprinted(t, "a byte that may not be, among others", api.ErrSign, l...)
	}
	unprinted(t, "one element too many, all without components", api.ErrArg, seg("ABC", make([][]string, api.MaxElems+1)...))
	unprinted(t, "a long component with a byte that may not be", api.ErrSign, seg("ABC", el(strings.Repeat("x", api.MaxText)+"\x7f")))
	unprinted(t, "a long component, and an element without any", api.ErrArg, seg("ABC", long.Elems[0], nil))
}

// The forms of a text, and of what a text may begin with, by which Parse is judged where nothing is long.
var (
	wholeForm = regexp.MustCompile(`(?s)^([A-Z0-9]{3}(\+([^+:'?\x00-\x1f\x7f]|\?[+:'?]|:)*)*'\n*)*$`)
	beginForm = regexp.MustCompile(`(?s)^([A-Z0-9]{3}(\+([^+:'?\x00-\x1f\x7f]|\?[+:'?]|:)*)*'\n*)*([A-Z0-9]{0,3}|[A-Z0-9]{3}(\+([^+:'?\x00-\x1f\x7f]|\?[+:'?]|:)*)+\??)$`)
)

// rightEnd is the place and the error of a text, by its forms.
func rightEnd(text string) (int, api.Errno) {
	if wholeForm.MatchString(text) {
		return 0, api.OK
	}
	for at := range len(text) {
		if !beginForm.MatchString(text[:at+1]) {
			return at, api.ErrSign
		}
	}
	return len(text), api.ErrEnd
}

// eachText calls do with all texts of up to n of the bytes behind ahead.
func eachText(ahead, bytes string, n int, do func(string)) {
	do(ahead)
	if n == 0 {
		return
	}
	for i := range len(bytes) {
		eachText(ahead+bytes[i:i+1], bytes, n-1, do)
	}
}

// P3.1, P3.3, P3.4: all short texts, behind beginnings that lead into each place.
func TestAllShortTexts(t *testing.T) {
	for _, ahead := range []string{"", "AB", "ABC", "ABC+", "ABC+x?+:", "ABC+y'"} {
		eachText(ahead, "A7a+:'?\n\x7f", 4, func(text string) {
			place, want := rightEnd(text)
			l, at, e := edi.Parse(text)
			if e != want || at != place || e != api.OK && len(l) != 0 {
				t.Fatalf("Parse(%q) = %q, %d, %v; want %d, %v", text, l, at, e, place, want)
			}
			if e == api.OK {
				prints(t, l, strings.ReplaceAll(text, "\n", ""))
				return
			}
			if _, cut, e := edi.Parse(text[:at]); e != api.OK && (e != api.ErrEnd || cut != at) {
				t.Fatalf("Parse(%q), cut off at %d: %d, %v", text, at, cut, e)
			}
		})
	}
}

// dice is numbers that do not repeat soon, the same in each run.
type dice uint32

// below is a number below n.
func (d *dice) below(n int) int {
	*d = *d*1664525 + 1013904223
	return int(*d>>8) % n
}

// comp is a component, with signs.
func (d *dice) comp() string {
	b := make([]byte, d.below(12))
	for i := range b {
		if b[i] = byte(32 + d.below(95)); d.below(3) == 0 {
			b[i] = "+:'?"[d.below(4)]
		}
	}
	return string(b)
}

// segs is segments of all sizes.
func (d *dice) segs() []api.Segment {
	var l []api.Segment
	for range d.below(api.MaxSegs + 1) {
		s := seg("")
		for range 3 {
			s.Tag += "ABCXYZ0189"[d.below(10):][:1]
		}
		for range d.below(5) {
			var comps []string
			for range 1 + d.below(api.MaxComps) {
				comps = append(comps, d.comp())
			}
			s.Elems = append(s.Elems, comps)
		}
		l = append(l, s)
	}
	return l
}

// P3.3: what is printed is parsed as it was, with bytes 10 behind each ' too; and printed again it is the same text.
func TestPrintedIsParsed(t *testing.T) {
	d := dice(1)
	for range 300 {
		l := d.segs()
		text, e := edi.Print(l)
		if e != api.OK {
			t.Fatalf("Print(%q): %v", l, e)
		}
		parses(t, text, l)
		lines := ""
		for _, s := range l {
			one, _ := edi.Print([]api.Segment{s})
			lines += one + strings.Repeat("\n", d.below(3))
		}
		parses(t, lines, l)
		if back, _, _ := edi.Parse(lines); len(back) == len(l) {
			prints(t, back, text)
		}
	}
}

// P3.4: texts with one byte changed, left out or put in: cut off at the place of the error they end too early, or are texts.
func TestCutOffAtError(t *testing.T) {
	d := dice(2)
	wrong := 0
	for range 3000 {
		text, _ := edi.Print(d.segs())
		if text == "" {
			continue
		}
		at := d.below(len(text))
		text = text[:at] + []string{"", "+", "?", "'", "\n", "\x80", "ab", ":"}[d.below(8)] + text[at+d.below(2):]
		_, place, e := edi.Parse(text)
		if e == api.OK {
			continue
		}
		wrong++
		if place < 0 || place > len(text) || e == api.ErrEnd && place != len(text) {
			t.Fatalf("Parse(%q) = %d, %v", text, place, e)
		}
		if _, cut, e := edi.Parse(text[:place]); e != api.OK && (e != api.ErrEnd || cut != place) {
			t.Fatalf("Parse(%q), cut off at %d: %d, %v", text, place, cut, e)
		}
	}
	if wrong < 500 {
		t.Errorf("only %d texts were wrong", wrong)
	}
}

// R2: what was parsed or printed leaves nothing behind for the next call.
func TestAgain(t *testing.T) {
	text := "ABC+a:b'DEF+?+'"
	first, _, _ := edi.Parse(text)
	for _, other := range []string{"XYZ+q:r:s+t", "XYZ+?q", "XYZ", "", text[:6]} {
		edi.Parse(other)
		parses(t, text, first)
	}
	edi.Print([]api.Segment{seg("XYZ", el("\n"))})
	prints(t, first, text)
}

// R3: what is printed is not changed, nor the room behind the lists' ends.
func TestPrintLeavesItsLists(t *testing.T) {
	make1 := func() []api.Segment {
		comps := []string{"a", "b?", "room", "room"}
		elems := [][]string{comps[:2], {"c"}, {"room"}}
		segs := []api.Segment{{Tag: "ABC", Elems: elems[:2]}, {Tag: "DEF"}, {Tag: "ROOM"}}
		return segs[:2]
	}
	l, was := make1(), make1()
	prints(t, l, "ABC+a:b??+c'DEF'")
	if !reflect.DeepEqual(l[:3], was[:3]) || !reflect.DeepEqual(l[0].Elems[:3], was[0].Elems[:3]) || !reflect.DeepEqual(l[0].Elems[0][:4], was[0].Elems[0][:4]) {
		t.Errorf("%q became %q", was, l)
	}
}

// R3: the lists of an answer, with their spare room, share nothing with each other, nor with a later answer.
func TestParsedListsAreNew(t *testing.T) {
	text := "ABC+a:b:c+d+e:f:g:h:i'DEF+j+k:l+m'GHI'"
	want, _, _ := edi.Parse(text)
	l, _, _ := edi.Parse(text)
	for i := range l {
		for j := range l[i].Elems {
			for k := len(l[i].Elems[j]); k < cap(l[i].Elems[j]); k++ {
				l[i].Elems[j] = append(l[i].Elems[j], "more")
			}
			l[i].Elems[j] = l[i].Elems[j][:len(want[i].Elems[j])]
		}
		elems := l[i].Elems
		for range cap(elems) - len(elems) {
			elems = append(elems, el("more"))
		}
	}
	if !same(l, want) {
		t.Errorf("what was written behind the lists' ends shows: %q", l)
	}
	for i := range l {
		for j := range l[i].Elems {
			clear(l[i].Elems[j])
		}
		clear(l[i].Elems)
	}
	clear(l)
	parses(t, text, want)
}

// R3: the texts of an answer are no pieces of the text that was read.
func TestParsedTextsAreNew(t *testing.T) {
	text := strings.Clone("ABC+abcd:efgh+ijkl'DEF+mnop'")
	from := uintptr(unsafe.Pointer(unsafe.StringData(text)))
	l, _, _ := edi.Parse(text)
	for _, s := range l {
		for _, word := range append(slices.Concat(s.Elems...), s.Tag) {
			if at := uintptr(unsafe.Pointer(unsafe.StringData(word))); at >= from && at < from+uintptr(len(text)) {
				t.Errorf("%q is a piece of the text", word)
			}
		}
	}
}
