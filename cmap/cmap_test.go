package cmap_test

import (
	"encoding/hex"
	"math"
	"math/rand"
	"slices"
	"strings"
	"testing"
	"unicode/utf16"
	"unicode/utf8"

	"foliowright/api"
	"foliowright/cmap"
)

// span of codes.
func span(from, to int, text string) api.Span {
	return api.Span{From: from, To: to, Text: text}
}

func of(l ...api.Span) []api.Span { return l }

// many spans, of a code each.
func many(n int) []api.Span {
	var l []api.Span
	for i := range n {
		l = append(l, span(2*i, 2*i, "a"))
	}
	return l
}

// checks: Check tells this, and so does Write, if it is an error.
func checks(t *testing.T, l []api.Span, wide bool, want error) {
	t.Helper()
	kept := slices.Clone(l)
	if err := cmap.Check(l, wide); err != want {
		t.Errorf("Check(%v, %v): %v, want %v", l, wide, err, want)
	}
	s, err := cmap.Write(l, wide)
	if err != want || (s == "") != (want != nil) {
		t.Errorf("Write(%v, %v): %.200q, %v, want %v", l, wide, s, err, want)
	}
	if !slices.Equal(l, kept) {
		t.Errorf("%v became %v", kept, l)
	}
}

// both: codes of one byte, and of two.
func both(t *testing.T, want error, l ...api.Span) {
	t.Helper()
	checks(t, l, false, want)
	checks(t, l, true, want)
}

func TestCheckMany(t *testing.T) { // E1
	both(t, nil)
	checks(t, many(api.MaxSpans), true, nil)
	checks(t, many(api.MaxSpans+1), true, api.ErrMany)
	checks(t, many(128), false, nil)
	checks(t, many(129), false, api.ErrBound)
	// Too many are told ahead of what is wrong with one.
	both(t, api.ErrMany, slices.Repeat(of(span(-1, -1, "")), api.MaxSpans+1)...)
	both(t, api.ErrBound, slices.Repeat(of(span(-1, -1, "")), api.MaxSpans)...)
}

func TestCheckBound(t *testing.T) { // E1
	both(t, nil, span(0, 0, "a"))
	both(t, nil, span(255, 255, "a"))
	both(t, nil, span(0, 255, "a"))
	checks(t, of(span(255, 256, "a")), false, api.ErrBound)
	checks(t, of(span(256, 256, "a")), false, api.ErrBound)
	checks(t, of(span(255, 256, "a")), true, nil)
	checks(t, of(span(api.MaxCode, api.MaxCode, "a")), true, nil)
	checks(t, of(span(api.MaxCode, api.MaxCode, "a")), false, api.ErrBound)
	checks(t, of(span(0, api.MaxCode, "\U00010000")), true, nil)
	both(t, api.ErrBound, span(0, api.MaxCode+1, "\U00010000"))
	both(t, api.ErrBound, span(api.MaxCode+1, api.MaxCode+1, "a"))
	both(t, api.ErrBound, span(-1, 0, "a"))
	both(t, api.ErrBound, span(-1, -1, "a"))
	both(t, api.ErrBound, span(math.MinInt, math.MaxInt, "a"))
	both(t, api.ErrBound, span(0, math.MaxInt, "a"))
	both(t, api.ErrBound, span(math.MinInt, 0, "a"))
	// Told ahead of what the same span may not be, but behind what is wrong with one ahead of it.
	both(t, api.ErrBound, span(-1, -2, ""))
	both(t, api.ErrBound, span(api.MaxCode+2, api.MaxCode+1, ""))
	both(t, api.ErrBound, span(7, 7, "a"), span(-1, 3, "a"))
	both(t, api.ErrShape, span(7, 7, ""), span(-1, 3, "a"))
	both(t, api.ErrBound, span(-1, 3, "a"), span(7, 7, ""))
}

func TestCheckOrder(t *testing.T) { // E1
	both(t, nil, span(3, 4, "a"), span(5, 5, "a"), span(9, 20, "x"))
	both(t, api.ErrShape, span(3, 2, "a"))
	both(t, api.ErrShape, span(0, -1, "a"))
	both(t, api.ErrShape, span(0, math.MinInt, "a"))
	both(t, api.ErrShape, span(math.MaxInt, 5, "a"))
	both(t, api.ErrShape, span(api.MaxCode+1, 5, "a"))
	both(t, api.ErrShape, span(3, 4, "a"), span(4, 4, "a"))
	both(t, api.ErrShape, span(3, 4, "a"), span(3, 4, "a"))
	both(t, api.ErrShape, span(3, 4, "a"), span(1, 2, "a"))
	both(t, api.ErrShape, span(0, 0, "a"), span(0, 0, "a"))
	both(t, api.ErrShape, span(1, 9, "a"), span(4, 12, "a"))
	both(t, api.ErrShape, span(1, 2, "a"), span(8, 9, "a"), span(9, 9, "a"))
}

func TestCheckText(t *testing.T) { // E1
	at := func(text string) api.Span { return span(65, 65, text) }
	for _, s := range []string{"a", "\x00", "\x7f", "é", "€", "\U0001F600", "fi", "a b", "\uFFFD", "\uD7FF", "\uE000", "\uFFFF", "\U00010000", "\U0010FFFF",
		strings.Repeat("a", 40), strings.Repeat("é", 20), strings.Repeat("\U0001F600", 10), strings.Repeat("€", 13) + "a"} {
		both(t, nil, at(s))
	}
	for _, s := range []string{"", strings.Repeat("a", 41), strings.Repeat("é", 20) + "a", strings.Repeat("\U0001F600", 11), strings.Repeat("€", 14), strings.Repeat("a", 1000),
		"\xff", "\x80", "a\xc3", "\xc3a", "\xed\xa0\x80", "\xed\xbf\xbf", "\xf4\x90\x80\x80", "\xc0\x80", "\xe2\x82", "\xffa"} {
		both(t, api.ErrShape, at(s))
	}
}

func TestCheckLast(t *testing.T) { // E1
	from := func(text string, more int) api.Span { return span(9, 9+more, text) }
	both(t, nil, from("\uD7FF", 0))
	both(t, nil, from("\uD7FE", 1))
	both(t, nil, from("a\uD700", 0xff-9))
	both(t, nil, from("\uE000", 200))
	both(t, nil, from("\uFFFF", 1))
	both(t, nil, from("\U0010FFFF", 0))
	both(t, nil, from("\U0010FF00", 100))
	both(t, nil, from("\U0010FFFF\uD7FFa", 100))
	both(t, api.ErrShape, from("\uD7FF", 1))
	both(t, api.ErrShape, from("\uD7FE", 2))
	both(t, api.ErrShape, from("\U0010FFFF", 1))
	both(t, api.ErrShape, from("a\U0010FFFE", 2))
	wide := func(want error, text string, more int) {
		t.Helper()
		checks(t, of(span(0, more, text)), true, want)
	}
	wide(nil, "a", 0xD7FF-'a')
	wide(api.ErrShape, "a", 0xD800-'a')
	wide(api.ErrShape, "a", 0xDFFF-'a')
	wide(api.ErrShape, "a", 0xE000-'a')
	wide(api.ErrShape, "a", api.MaxCode)
	wide(api.ErrShape, "\uD7FF", 0xE000-0xD7FF)
	wide(api.ErrShape, "\uD7FF", 0x7FF)
	wide(nil, "\uE000", api.MaxCode)
	wide(nil, "\U00100000", api.MaxCode)
	wide(api.ErrShape, "\U00100001", api.MaxCode)
}

func TestText(t *testing.T) { // E1
	l := of(span(3, 5, "a"), span(6, 6, "fi"), span(20, 29, "xy\uFFFB"), span(40, 42, "\x7f"), span(50, 52, "\uFFFF"), span(60, 61, "\u07FF"), span(255, 255, "\U0010FFFF"), span(256, 300, "\uE000"))
	for code, want := range map[int]string{3: "a", 4: "b", 5: "c", 6: "fi", 20: "xy\uFFFB", 21: "xy\uFFFC", 22: "xy\uFFFD", 25: "xy\U00010000", 29: "xy\U00010004",
		40: "\x7f", 41: "\u0080", 42: "\u0081", 50: "\uFFFF", 51: "\U00010000", 52: "\U00010001", 60: "\u07FF", 61: "\u0800", 255: "\U0010FFFF", 256: "\uE000", 300: "\uE02C"} {
		if s, is := cmap.Text(l, code); s != want || !is {
			t.Errorf("Text(%d): %q, %v, want %q", code, s, is, want)
		}
	}
	for _, code := range []int{-1, 0, 2, 7, 19, 30, 39, 43, 254, 301, api.MaxCode, math.MinInt, math.MaxInt} {
		if s, is := cmap.Text(l, code); s != "" || is {
			t.Errorf("Text(%d): %q, %v, want none", code, s, is)
		}
	}
	if s, is := cmap.Text(nil, 0); s != "" || is {
		t.Errorf("Text of nothing: %q, %v", s, is)
	}
}

// Of spans that may not be nothing is said, but that a call ends.
func TestTextNone(t *testing.T) { // Z1
	for _, l := range [][]api.Span{of(span(0, 9, "")), of(span(0, 9, "\xff")), of(span(math.MinInt, math.MaxInt, "a")), of(span(0, math.MaxInt, "\U0010FFFF")), of(span(5, 1, "a"))} {
		for _, code := range []int{0, 3, 9, math.MaxInt, math.MinInt, -1} {
			cmap.Text(l, code)
		}
	}
}

// program: a space of codes, and what stands behind it.
func program(wide bool, rest string) string {
	if wide {
		return "1 begincodespacerange\n<0000> <FFFF>\nendcodespacerange\n" + rest
	}
	return "1 begincodespacerange\n<00> <FF>\nendcodespacerange\n" + rest
}

func writes(t *testing.T, wide bool, rest string, l ...api.Span) {
	t.Helper()
	s, err := cmap.Write(l, wide)
	if want := program(wide, rest); s != want || err != nil {
		t.Errorf("Write(%v, %v): %q, %v, want %q", l, wide, s, err, want)
	}
	reads(t, s, wide, l...)
}

// reads: a program tells these spans.
func reads(t *testing.T, s string, wide bool, want ...api.Span) {
	t.Helper()
	l, two, err := cmap.Parse(s)
	if !slices.Equal(l, want) || two != wide || err != nil {
		t.Errorf("Parse(%.200q): %v, %v, %v, want %v, %v", s, l, two, err, want, wide)
	}
}

// noRead: a program tells this error, and nothing besides.
func noRead(t *testing.T, s string, want error) {
	t.Helper()
	if l, two, err := cmap.Parse(s); len(l) != 0 || two || err != want {
		t.Errorf("Parse(%.200q): %v, %v, %v, want %v alone", s, l, two, err, want)
	}
}

func TestWrite(t *testing.T) { // E2
	writes(t, false, "")
	writes(t, true, "")
	writes(t, false, "1 beginbfrange\n<00> <00> <0061>\nendbfrange\n", span(0, 0, "a"))
	writes(t, true, "1 beginbfrange\n<0000> <0000> <0061>\nendbfrange\n", span(0, 0, "a"))
	writes(t, false, "1 beginbfrange\n<0A> <FF> <00660069>\nendbfrange\n", span(10, 255, "fi"))
	writes(t, true, "1 beginbfrange\n<00AB> <ABCD> <00E920AC>\nendbfrange\n", span(0xab, 0xabcd, "é€"))
	writes(t, true, "1 beginbfrange\n<FFFF> <FFFF> <D83DDE00>\nendbfrange\n", span(api.MaxCode, api.MaxCode, "\U0001F600"))
	writes(t, false, "1 beginbfrange\n<01> <02> <0000>\nendbfrange\n1 beginbfrange\n<03> <03> <D800DC00DBFFDFFF>\nendbfrange\n1 beginbfrange\n<7F> <80> <D7FEE000FFFF>\nendbfrange\n",
		span(1, 2, "\x00"), span(3, 3, "\U00010000\U0010FFFF"), span(127, 128, "\uD7FE\uE000\uFFFF"))
	long := strings.Repeat("a", 40)
	writes(t, false, "1 beginbfrange\n<05> <05> <"+strings.Repeat("0061", 40)+">\nendbfrange\n", span(5, 5, long))
	// There are programs of more bytes than are read.
	var l []api.Span
	for i := range api.MaxSpans {
		l = append(l, span(i, i, long))
	}
	s, err := cmap.Write(l, true)
	if len(s) <= api.MaxData || strings.Count(s, "endbfrange\n") != api.MaxSpans || err != nil {
		t.Errorf("Write of many: %d bytes, %v", len(s), err)
	}
	noRead(t, s, api.ErrMany)
}

func TestParseNothing(t *testing.T) { // E3
	for _, s := range []string{"", " ", "%", "% beginbfchar", "x y 1 2", "endbfchar endbfrange endcodespacerange", ") ( > ] [ { } /", "<>", "<zz>", "<41> <0041>", "<<a b>> def",
		"<% beginbfchar <41>", "%<\n", "Beginbfchar", "beginbfcharx", "xbeginbfchar", "begin bfchar",
		"beginbfchar endbfchar", "beginbfrange endbfrange", "begincodespacerange endcodespacerange", "beginbfchar%\nendbfchar", "/CIDInit /ProcSet findresource begin 12 dict begin begincmap"} {
		reads(t, s, false)
	}
}

func TestParseSpace(t *testing.T) { // E3
	space := func(s string) string { return "begincodespacerange " + s + " endcodespacerange\n" }
	reads(t, space("<00> <FF>"), false)
	reads(t, space("<20><7e>"), false)
	reads(t, space("<0000> <ffff>"), true)
	reads(t, space("<1234> <0000>"), true)
	reads(t, space("<00> <FF> <0000> <FFFF>"), true)
	reads(t, space("<0000> <FFFF> <00> <FF>"), false)
	reads(t, space("<0000> <FFFF>")+space(""), true)
	reads(t, space("<0000> <FFFF>")+" "+space("<00> <FF>"), false)
	reads(t, space("<0000> <FFFF>")+" beginbfchar <0141> <0061> endbfchar", true, span(0x141, 0x141, "a"))
	reads(t, "beginbfchar <41> <0061> endbfchar", false, span(0x41, 0x41, "a"))
	for _, s := range []string{"<>", "<000000>", "<> <FF>", "<00> <>", "<000000> <FFFFFF>", "<00> <FFFFFF>", "<0000> <FF>", "<00> <FFFF>", "<00> <FF> <>", "<000000> x"} {
		noRead(t, space(s), api.ErrShape)
	}
	for _, s := range []string{"<00>", "<00> <FF> <00>", "x", "00", "<00> FF", "<0> <F>", "<00> <F>", "<0g> <FF>", "[<00> <FF>]", "<00> <FF> 1", "<0 0> <FF>", "<00> beginbfchar", ")", ">", "<<00> <FF>"} {
		noRead(t, space(s), api.ErrText)
	}
}

func chars(s string) string  { return "1 beginbfchar " + s + " endbfchar\n" }
func ranges(s string) string { return "1 beginbfrange " + s + " endbfrange\n" }

func TestParseChars(t *testing.T) { // E3
	a := span(0x41, 0x41, "a")
	reads(t, chars("<41> <0061>"), false, a)
	reads(t, "beginbfchar<41><0061>endbfchar", false, a)
	reads(t, "beginbfchar%x\n<41>%>\r<0061>\x00\fendbfchar", false, a)
	reads(t, "beginbfchar <41> <0061> endbfchar <41> <0062>", false, a)
	reads(t, chars("<4f> <00e9fffd>")+chars("<00> <0000>")+chars("<Ff> <d83DDe00>"), false, span(0, 0, "\x00"), span(0x4f, 0x4f, "é\uFFFD"), span(255, 255, "\U0001F600"))
	reads(t, chars("<42> <0062> <41> <0061> <43> <0063>"), false, a, span(0x42, 0x42, "b"), span(0x43, 0x43, "c"))
	reads(t, program(true, chars("<FFFF> <DBFFDFFF> <0041> <0061>")), true, a, span(api.MaxCode, api.MaxCode, "\U0010FFFF"))
	reads(t, chars("<41> <D7FFE000>"), false, span(0x41, 0x41, "\uD7FF\uE000"))
	reads(t, chars("<41> <"+strings.Repeat("0061", 40)+">"), false, span(0x41, 0x41, strings.Repeat("a", 40)))
	// What stands around parts tells nothing.
	reads(t, "/CIDInit /ProcSet findresource begin << /a (b) >> def\n"+program(false, chars("<41> <0061>"))+" endcmap (x) > end", false, a)
}

func TestParseCharErrors(t *testing.T) { // E3
	for _, s := range []string{"<>", "<0041>", "<4141> <0061>", "<> <0061>", "<414141> <0061>", "<41> <0061> <0042> <0062>", "<0041> x"} {
		noRead(t, chars(s), api.ErrShape)
	}
	for _, s := range []string{"<41> <0061>", "<000041> <0061>", "<> <0061>"} {
		noRead(t, program(true, chars(s)), api.ErrShape)
	}
	for _, s := range []string{"<41>", "<41> <0061> <42>", "x", "41 <0061>", "<41> 0061", "<4> <0061>", "<4g> <0061>", "<41> <006>", "<41> <006g>", "<41> <00 61>", "<41> <0061\n>", "<41> [<0061>]", "<41> (a)", "<41> /a",
		"<41> <61>", "<41> <006100>", "<41> <D83D>", "<41> <DE00>", "<41> <D83D0061>", "<41> <DE00D83D>", "<41> <D83DD83D>", "<41> <D83DDE>", "<41> <D800>", "<41> <DBFF>", "<41> <DC00>", "<41> <DFFF>", "<41> <D800DBFF>", "<41> <DC00DC00>", "<41> <DFFFDFFF>", "<41> <D800E000>", "<41> <0061DFFF>",
		"beginbfchar", "<41> beginbfchar", "endbfrange", "]", ">", "<<41> <0061>", "<4>1> <0061>"} {
		noRead(t, chars(s), api.ErrText)
	}
}

func TestParseRanges(t *testing.T) { // E3
	reads(t, ranges("<41> <43> <0061>"), false, span(0x41, 0x43, "a"))
	reads(t, ranges("<41><43><00660069>"), false, span(0x41, 0x43, "fi"))
	reads(t, ranges("<50> <5f> <0041> <00> <0a> <20AC>"), false, span(0, 10, "€"), span(0x50, 0x5f, "A"))
	reads(t, program(true, ranges("<0000> <FFFF> <D83DDE00>")), true, span(0, api.MaxCode, "\U0001F600"))
	reads(t, ranges("<70> <71> [<0041> <0043>]"), false, span(0x70, 0x70, "A"), span(0x71, 0x71, "C"))
	reads(t, ranges("<70><71>[ <00410042>\n%]\n<0043>]<72><72><0044>"), false, span(0x70, 0x70, "AB"), span(0x71, 0x71, "C"), span(0x72, 0x72, "D"))
	reads(t, ranges("<70> <70> [<0041>]"), false, span(0x70, 0x70, "A"))
	reads(t, ranges("<FE> <FF> [<0041><0042>]"), false, span(254, 254, "A"), span(255, 255, "B"))
	reads(t, program(true, ranges("<00FF> <0100> [<0041><0042>]")), true, span(255, 255, "A"), span(256, 256, "B"))
	reads(t, ranges("<71> <70> []"), false)
	reads(t, ranges("<05> <03> [ ]"), false)
}

func TestParseRangeErrors(t *testing.T) { // E3
	for _, s := range []string{"<0041> <43> <0061>", "<41> <0043> <0061>", "<> <43> <0061>", "<41> <> <0061>", "<41> <004343> x",
		"<70> <71> []", "<70> <71> [<0041>]", "<70> <71> [<0041> <0042> <0043>]", "<70> <70> []", "<70> <70> [<0041> <0042>", "<70> <70> [<0041> <0042> x", "<71> <70> [<0041>]", "<05> <03> [<0041>]"} {
		noRead(t, ranges(s), api.ErrShape)
	}
	for _, s := range []string{"<41>", "<41> <43>", "<41> <43> <0061> <50>", "x", "<41> x", "<41> <43> x", "<41> <4> <0061>", "<41> <43> <006>", "<41> <43> <D83D>", "<41> <43> <61>", "<41> <43> ]", "<41> [<43>]", "[<41>", "<41> <43> (a)",
		"<70> <71> [x]", "<70> <71> [<0041> x]", "<70> <71> [<0041> <0042> x]", "<70> <71> [<0041> <0042> <004>]", "<70> <71> [<0041> <0042> <D83D>]", "<70> <71> [<0041> <D83D>]", "<70> <71> [[<0041> <0042>]]", "<70> <71> [<0041> <0042>] ]", "<70> <71> [<0041> <0042>", "<70> <70> [<0041>"} {
		noRead(t, ranges(s), api.ErrText)
	}
}

func TestParseEnd(t *testing.T) { // E3
	for _, s := range []string{"<", "<41", "a <", "%\n<", "<> <", "beginbfchar", "beginbfchar ", "beginbfchar %endbfchar", "beginbfrange", "begincodespacerange", "begincodespacerange <00> <FF>", "begincodespacerange <00> <FF> <00> <FF",
		"beginbfchar <41> <0061>", "beginbfchar <41> <0061", "beginbfchar <41", "beginbfchar <41> <", "beginbfchar <41> <zz", "begincodespacerange <", "begincodespacerange <00> <",
		"beginbfrange <41> <43> <0061>", "beginbfrange <41> <43> <0061", "beginbfrange <41> <43", "beginbfrange <41", "beginbfrange <70> <71> [", "beginbfrange <70> <71> [<0041>", "beginbfrange <70> <71> [<0041> <00", "beginbfrange <70> <71> [<0041> <0042>", "beginbfrange <70> <71> [<0041> <0042>]",
		chars("<41> <0061>") + " <", chars("<41> <>") + " <"} {
		noRead(t, s, api.ErrEnd)
	}
	// Within an item nothing is no string.
	for _, s := range []string{"beginbfchar <41>", "beginbfchar <41> <0061> <42> ", "begincodespacerange <00>", "begincodespacerange <00> %<FF>", "beginbfrange <41>", "beginbfrange <41> <43>", "beginbfrange <41> <43> %["} {
		noRead(t, s, api.ErrText)
	}
}

func TestParseFirst(t *testing.T) { // E3: the first error is told
	noRead(t, chars("<41> <D83D>")+" <", api.ErrText)
	noRead(t, chars("<0041> <D83D>")+" <", api.ErrShape)
	noRead(t, chars("<41> <0061> <42> <zz>")+chars("<0041>"), api.ErrText)
	noRead(t, chars("<0041> <0061>")+chars("x"), api.ErrShape)
	// Codes have as many bytes as the last pair ahead of them tells.
	noRead(t, chars("<0041> <0061>")+program(true, ""), api.ErrShape)
	reads(t, chars("<41> <0061>")+" "+program(true, chars("<0141> <0062>")), true, span(0x41, 0x41, "a"), span(0x141, 0x141, "b"))
	noRead(t, program(true, chars("<0141> <0061>"))+" "+program(false, ""), api.ErrBound)
	reads(t, program(true, chars("<0041> <0061>"))+" "+program(false, ""), false, span(0x41, 0x41, "a"))
}

func TestParseCheck(t *testing.T) { // E3: then Check's error
	for _, s := range []string{chars("<41> <>"), chars("<41> <" + strings.Repeat("0061", 41) + ">"), chars("<41> <" + strings.Repeat("20AC", 14) + ">"), chars("<41> <0061> <41> <0062>"), chars("<41> <0061> <41> <0061>"),
		ranges("<43> <41> <0061>"), ranges("<41> <43> <0061> <43> <44> <0061>"), ranges("<41> <43> <0061>") + chars("<42> <0062>"), ranges("<00> <01> <D7FF>"), ranges("<00> <01> <DBFFDFFF>"), ranges("<70> <71> [<0041> <>]"), ranges("<70> <71> [<0041> <0042>]") + chars("<71> <0043>")} {
		noRead(t, s, api.ErrShape)
	}
	// Of two that begin alike the later one is looked at first: of it ErrBound, or ErrShape.
	later := func(s string) string { return program(true, s) + program(false, "") }
	noRead(t, later(ranges("<0005> <0005> <> <0005> <0100> <0061>")), api.ErrBound)
	noRead(t, later(ranges("<0005> <0100> <0061> <0005> <0005> <>")), api.ErrShape)
	noRead(t, later(ranges("<0005> <0005> <0061> <0005> <0005> <> <0005> <0100> <0061>")), api.ErrBound)
	noRead(t, later(ranges("<0005> <0100> <0061> <0005> <0005> <0061> <0005> <0005> <>")), api.ErrShape)
}

// wideChars: so many codes of two bytes, the last one first.
func wideChars(n int) string {
	s := "beginbfchar"
	for i := range n {
		c := n - 1 - i
		s += "<" + hex.EncodeToString([]byte{byte(c >> 8), byte(c)}) + "><0061>"
	}
	return s
}

func TestParseMany(t *testing.T) { // E3
	full := program(true, wideChars(api.MaxSpans))
	if l, two, err := cmap.Parse(full + " endbfchar"); len(l) != api.MaxSpans || !two || err != nil {
		t.Errorf("%d spans, %v, %v", len(l), two, err)
	}
	noRead(t, program(true, wideChars(api.MaxSpans+1))+" endbfchar", api.ErrMany)
	// When that comes: what is wrong ahead of it is told first, what is wrong behind it isn't told.
	noRead(t, program(true, wideChars(api.MaxSpans+1)), api.ErrMany)
	noRead(t, full, api.ErrEnd)
	noRead(t, full+"<0500>", api.ErrText)
	noRead(t, full+"<0500> <D83D>", api.ErrText)
	noRead(t, full+"<05> <0061>", api.ErrShape)
	noRead(t, full+"<0500> <0061>", api.ErrMany)
	noRead(t, full+"<0500> <>", api.ErrMany)
	noRead(t, full+"<0000> <0061> x", api.ErrMany)
	noRead(t, full+" endbfchar "+ranges("<0500> <0600> <0061>"), api.ErrMany)
	noRead(t, full+" endbfchar "+ranges("<0500> <0500> [<0061>]"), api.ErrMany)
	noRead(t, full+" endbfchar "+ranges("<0501> <0500> [<0061>]"), api.ErrShape)
	list := "beginbfrange <0000> <FFFF> [" + strings.Repeat("<0061>", api.MaxSpans)
	noRead(t, program(true, list+"]"), api.ErrShape)
	noRead(t, program(true, list), api.ErrEnd)
	noRead(t, program(true, list+"<0061>"), api.ErrMany)
}

func TestParseData(t *testing.T) { // E3
	s := chars("<41> <0061>")
	fill := strings.Repeat(" ", api.MaxData-len(s))
	reads(t, s+fill, false, span(0x41, 0x41, "a"))
	reads(t, fill+s, false, span(0x41, 0x41, "a"))
	noRead(t, s+fill+" ", api.ErrMany)
	noRead(t, strings.Repeat("<", api.MaxData), api.ErrEnd)
	noRead(t, strings.Repeat("<", api.MaxData+1), api.ErrMany)
}

// drawn: spans that may be.
func drawn(draw *rand.Rand, wide bool) []api.Span {
	most := 256
	if wide {
		most = api.MaxCode + 1
	}
	var l []api.Span
	for at := draw.Intn(most / 4); at < most && len(l) < 30; {
		x := span(at, min(at+draw.Intn(4)*draw.Intn(most/16), most-1), "")
		for range 1 + draw.Intn(3) {
			x.Text += []string{"a", "z", "\x00", "é", "€", "\uD7FF", "\uE000", "\uFFFD", "\U00010000", "\U000FFFFF", "\U0010FFFF"}[draw.Intn(11)]
		}
		if cmap.Check(of(x), wide) != nil {
			x.To = x.From
		}
		l = append(l, x)
		at = x.To + 1 + draw.Intn(3)*draw.Intn(most/16)
	}
	return l
}

// slow: what Write writes, said once more by the library.
func slow(l []api.Span, wide bool) string {
	two := func(n uint16) string { return strings.ToUpper(hex.EncodeToString([]byte{byte(n >> 8), byte(n)})) }
	code := func(n int) string {
		if wide {
			return two(uint16(n))
		}
		return two(uint16(n))[2:]
	}
	s := program(wide, "")
	for _, x := range l {
		text := ""
		for _, u := range utf16.Encode([]rune(x.Text)) {
			text += two(u)
		}
		s += "1 beginbfrange\n<" + code(x.From) + "> <" + code(x.To) + "> <" + text + ">\nendbfrange\n"
	}
	return s
}

func TestBack(t *testing.T) { // E1 to E3, W5
	draw := rand.New(rand.NewSource(5))
	for i := range 1000 {
		wide := i%2 == 0
		l := drawn(draw, wide)
		if err := cmap.Check(l, wide); err != nil {
			t.Fatalf("Check(%v): %v", l, err)
		}
		writes(t, wide, strings.TrimPrefix(slow(l, wide), program(wide, "")), l...)
		for _, x := range l {
			for _, code := range []int{x.From, x.To, (x.From + x.To) / 2} {
				r := []rune(x.Text)
				r[len(r)-1] += rune(code - x.From)
				if s, is := cmap.Text(l, code); s != string(r) || !is || !utf8.ValidString(s) {
					t.Errorf("Text(%v, %d): %q, %v", l, code, s, is)
				}
			}
		}
	}
}

func TestFresh(t *testing.T) { // Z2
	s := chars("<41> <0061> <42> <0062>")
	l, _, _ := cmap.Parse(s)
	l[0].Text, l[1].From = "x", 7
	reads(t, s, false, span(0x41, 0x41, "a"), span(0x42, 0x42, "b"))
	// What stands behind a list isn't read.
	both(t, nil, of(span(1, 1, "a"), span(-1, -1, ""))[:1]...)
	if s, is := cmap.Text(of(span(1, 1, "a"), span(2, 2, "b"))[:1], 2); s != "" || is {
		t.Errorf("Text behind the list: %q, %v", s, is)
	}
}

func TestSpoiled(t *testing.T) { // Z1, Z3
	draw := rand.New(rand.NewSource(8))
	pieces := []string{"<", ">", "[", "]", "%", "\n", " ", "<41>", "<0041>", "<>", "<D83D>", "beginbfchar ", "endbfchar ", "beginbfrange ", "endbfrange ", "begincodespacerange ", "endcodespacerange ", "g", "(", "\xff"}
	for i := range 20000 {
		s, _ := cmap.Write(drawn(draw, i%2 == 0), i%2 == 0)
		for range draw.Intn(4) {
			at := draw.Intn(len(s) + 1)
			s = s[:at] + pieces[draw.Intn(len(pieces))] + s[min(len(s), at+draw.Intn(8)):]
		}
		l, two, err := cmap.Parse(s)
		if err == nil {
			if again := cmap.Check(l, two); again != nil {
				t.Errorf("Parse(%q): %v, %v; Check: %v", s, l, two, again)
			}
			continue
		}
		if _, bare := err.(api.Errno); !bare || len(l) != 0 || two {
			t.Errorf("Parse(%q): %v, %v, %v", s, l, two, err)
		}
	}
}
