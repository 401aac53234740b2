package search_test

import (
	"fmt"
	"math"
	"math/rand"
	"slices"
	"strings"
	"testing"

	"foliowright/api"
	"foliowright/layout"
	"foliowright/pages"
	"foliowright/press"
	"foliowright/search"
)

func TestFind(t *testing.T) { // L1
	for _, c := range []struct {
		s, p  string
		alike bool
		want  string
	}{
		{"", "a", false, "[]"},
		{"a", "a", false, "[0]"},
		{"a", "b", false, "[]"},
		{"a", "aa", false, "[]"}, // longer than what is looked through
		{"", "aaa", true, "[]"},
		{"aba", "aba", false, "[0]"},
		{"abcabcab", "abc", false, "[0 3]"},
		{"abcabcab", "ab", false, "[0 3 6]"},
		{"aaaa", "aa", false, "[0 1 2]"}, // it overlaps itself
		{"ababab", "abab", false, "[0 2]"},
		{"aabaabaa", "aabaa", false, "[0 3]"},
		{"aaab", "aab", false, "[1]"},
		{"abac", "ac", false, "[2]"},
		{"a b", " ", false, "[1]"},
		{"a\nb", "\n", false, "[1]"},
		{"a\nb", "a\nb", false, "[0]"},
		{"a\nb", "a b", true, "[]"},
		{"éaéa€", "éa", false, "[0 2]"}, // places are signs, not bytes
		{"éaéa€", "€", false, "[4]"},
		{"\U0001F600a", "a", false, "[1]"},

		{"aAbB", "a", false, "[0]"},
		{"aAbB", "A", false, "[1]"},
		{"aAbB", "a", true, "[0 1]"},
		{"aAbB", "A", true, "[0 1]"},
		{"aAaA", "AA", true, "[0 1 2]"},
		{"aAaA", "AA", false, "[]"},
		{"ZzaA", "z", true, "[0 1]"},
		{"mMnN", "Mn", true, "[1]"},
		{"aAbB", "bb", true, "[2]"},
		{"éÉ", "É", true, "[1]"}, // just A to Z are alike
		{"éÉ", "é", true, "[0]"},
		{"ſsS", "S", true, "[1 2]"},
		{"\u212AkK", "k", true, "[1 2]"},
		{"@`", "@", true, "[0]"}, // they stand beside A and a
		{"@`", "`", true, "[1]"},
		{"[{", "{", true, "[1]"},
		{"[{", "[", true, "[0]"},
		{"1Q", "\x11", true, "[]"},
		{"!A", "a!", true, "[]"},
	} {
		l, err := search.Find([]rune(c.s), []rune(c.p), c.alike)
		if got := fmt.Sprint(l); err != nil || got != c.want {
			t.Errorf("Find(%q, %q, %t): %s, %v, want %s", c.s, c.p, c.alike, got, err, c.want)
		}
	}
}

func TestLetters(t *testing.T) { // L1: which signs are alike
	for a := rune(0); a < 0x180; a++ {
		for b := rune(0); b < 0x180; b++ {
			capital := a >= 'A' && a <= 'Z' && b == a+32 || b >= 'A' && b <= 'Z' && a == b+32
			for _, alike := range []bool{false, true} {
				l, err := search.Find([]rune{a}, []rune{b}, alike)
				if want := a == b || alike && capital; err != nil || (len(l) == 1) != want {
					t.Fatalf("Find(%q, %q, %t): %d, %v", a, b, alike, l, err)
				}
			}
		}
	}
}

func TestNothing(t *testing.T) { // L1, L2: wrong inputs
	for _, alike := range []bool{false, true} {
		for _, s := range []string{"", "a", "abc"} {
			for _, p := range [][]rune{nil, {}} {
				if l, err := search.Find([]rune(s), p, alike); err != api.ErrEmpty || len(l) != 0 {
					t.Errorf("Find(%q, %q, %t): %d, %v", s, p, alike, l, err)
				}
			}
		}
		for _, l := range [][]api.Glyph{nil, page(), {g("", 0, 0)}} {
			if hits, err := search.Page(l, "", alike); err != api.ErrEmpty || len(hits) != 0 {
				t.Errorf("Page(%v, nothing, %t): %v, %v", l, alike, hits, err)
			}
		}
	}
}

// g: a glyph at a place, ten great and five wide (whole ones), and the box around it.
func g(text string, x, y int) api.Glyph {
	x, y = 1000*x, 1000*y
	return api.Glyph{
		Text: text, Size: 10000,
		At: api.Point{X: x, Y: y}, End: api.Point{X: x + 5000, Y: y},
		Box: api.Box{X0: x, Y0: y, X1: x + 5000, Y1: y + 10000},
	}
}

// page: "ab a", "ffi é" and "B a" as lines, told in another order; between there are glyphs without a text.
func page() []api.Glyph {
	return []api.Glyph{
		g("B", 0, 60), g(" ", 5, 60), g("a", 10, 60),
		g("ffi", 0, 80), g("é", 20, 81), g("", 90, 80),
		g("b", 5, 100), g("a", 20, 99), g("", 10, 100), g("a", 0, 102),
	}
}

// short form of hits, in whole ones.
func short(l []api.Hit) string {
	var out []string
	for _, h := range l {
		s := fmt.Sprint(h.From, "-", h.To)
		for _, b := range h.Boxes {
			s += fmt.Sprint(" ", [4]int{b.X0 / api.Whole, b.Y0 / api.Whole, b.X1 / api.Whole, b.Y1 / api.Whole})
		}
		out = append(out, s)
	}
	return strings.Join(out, "; ")
}

func TestPage(t *testing.T) { // L2
	if got := string(layout.Of(page()).Signs); got != "ab a\nffi é\nB a" {
		t.Fatalf("the page's text is %q", got)
	}
	for _, c := range []struct {
		p     string
		alike bool
		want  string
	}{
		{"a", false, "0-1 [0 102 5 112]; 3-4 [20 99 25 109]; 13-14 [10 60 15 70]"},
		{"ab", false, "0-2 [0 100 10 112]"},
		{"ab a", false, "0-4 [0 99 25 112]"},
		{"é", false, "9-10 [20 81 25 91]"},
		{"B", false, "11-12 [0 60 5 70]"},
		{"B", true, "1-2 [5 100 10 110]; 11-12 [0 60 5 70]"},
		{"b", true, "1-2 [5 100 10 110]; 11-12 [0 60 5 70]"},
		{"b A", true, "1-4 [5 99 25 110]; 11-14 [0 60 15 70]"},
		{"É", true, ""},
		{"f", false, "5-6 [0 80 5 90]; 6-7 [0 80 5 90]"}, // a part of a glyph: the box of all of it
		{"fi", false, "6-8 [0 80 5 90]"},
		{"ffi", false, "5-8 [0 80 5 90]"},
		{"i é", false, "7-10 [0 80 25 91]"},
		{" ", false, "2-3; 8-9; 12-13 [5 60 10 70]"}, // the last one is a glyph's
		{"\n", false, "4-5; 10-11"},
		{"a\n", false, "3-5 [20 99 25 109]"}, // it has just an end of a line behind it
		{"\nf", false, "4-6 [0 80 5 90]"},
		{"a\nf", false, "3-6 [20 99 25 109] [0 80 5 90]"},
		{" a\nffi ", false, "2-9 [20 99 25 109] [0 80 5 90]"},
		{"é\nB a", false, "9-14 [20 81 25 91] [0 60 15 70]"},
		{"b a\nffi é\nb", true, "1-12 [5 99 25 110] [0 80 25 91] [0 60 5 70]"},
		{"ab a\nffi é\nB a", false, "0-14 [0 99 25 112] [0 80 25 91] [0 60 15 70]"},
		{"ab a\nffi é\nB aa", false, ""},
		{"ba", false, ""},
		{"a a", false, ""},
		{"x", true, ""},
	} {
		hits, err := search.Page(page(), c.p, c.alike)
		if got := short(hits); err != nil || got != c.want {
			t.Errorf("Page(%q, %t): %s, %v, want %s", c.p, c.alike, got, err, c.want)
		}
	}
}

func TestOverlap(t *testing.T) { // L2: hits that share signs, also over an end of a line
	l := []api.Glyph{g("a", 0, 40), g("a", 5, 40), g("a", 10, 40), g("a", 0, 20), g("a", 5, 20)}
	for _, c := range []struct{ p, want string }{
		{"aa", "0-2 [0 40 10 50]; 1-3 [5 40 15 50]; 4-6 [0 20 10 30]"},
		{"a\na", "2-5 [10 40 15 50] [0 20 5 30]"},
		{"a\naa", "2-6 [10 40 15 50] [0 20 10 30]"},
		{"aaaa", ""},
		{"aaa\naaa", ""},
	} {
		hits, err := search.Page(l, c.p, false)
		if got := short(hits); err != nil || got != c.want {
			t.Errorf("Page(%q): %s, %v, want %s", c.p, got, err, c.want)
		}
	}
	two := []api.Glyph{g("aba", 0, 0), g("bab", 5, 0)} // glyphs of several signs
	hits, err := search.Page(two, "aba", false)
	if got := short(hits); err != nil || got != "0-3 [0 0 5 10]; 2-5 [0 0 10 10]" {
		t.Errorf("Page(%v): %s, %v", two, got, err)
	}
}

func TestBoxes(t *testing.T) { // L2: boxes are those of the glyphs, wherever these stand
	box := func(text string, x, y int, b api.Box) api.Glyph {
		glyph := g(text, x, y)
		glyph.Box = b
		return glyph
	}
	l := []api.Glyph{
		box("a", 0, 0, api.Box{X0: 5, Y0: -7, X1: 6, Y1: 2}),
		box("b", 5, 0, api.Box{X0: -9, Y0: 1, X1: -8, Y1: 40}),
		box("", 10, 0, api.Box{X0: -999, Y0: -999, X1: 999, Y1: 999}), // without a text it is in no hit
		box("c", 10, 0, api.Box{X0: 30, Y0: 3, X1: 31, Y1: 4}),
		box("d", 0, -90, api.Box{}),
	}
	for _, c := range []struct {
		p    string
		want []api.Box
	}{
		{"a", []api.Box{{X0: 5, Y0: -7, X1: 6, Y1: 2}}},
		{"ab", []api.Box{{X0: -9, Y0: -7, X1: 6, Y1: 40}}},
		{"bc", []api.Box{{X0: -9, Y0: 1, X1: 31, Y1: 40}}},
		{"abc\nd", []api.Box{{X0: -9, Y0: -7, X1: 31, Y1: 40}, {}}},
		{"\nd", []api.Box{{}}},
	} {
		hits, err := search.Page(l, c.p, false)
		if err != nil || len(hits) != 1 || !slices.Equal(hits[0].Boxes, c.want) {
			t.Errorf("Page(%q): %v, %v, want %v", c.p, hits, err, c.want)
		}
	}
	same := []api.Glyph{g("a", 0, 0), g("b", 5, 0)} // two lines on one Y have a box each
	same[0].Size, same[1].Size = -1, -1
	hits, err := search.Page(same, "a\nb", false)
	if got := short(hits); err != nil || got != "0-3 [0 0 5 10] [5 0 10 10]" {
		t.Errorf("Page(%v): %s, %v", same, got, err)
	}
}

func TestNoGlyphs(t *testing.T) { // L2
	for _, l := range [][]api.Glyph{nil, {}, {g("", 0, 0), g("", 0, 40)}} {
		for _, p := range []string{"a", " ", "\n", "\x00"} {
			for _, alike := range []bool{false, true} {
				if hits, err := search.Page(l, p, alike); err != nil || len(hits) != 0 {
					t.Errorf("Page(%v, %q, %t): %v, %v", l, p, alike, hits, err)
				}
			}
		}
	}
}

func TestWritten(t *testing.T) { // W1, W4: pages that were written, read and looked through
	spec := api.Spec{
		Styles: []api.Style{
			{Signs: "ab ", Widths: []int{500, 500, 500}},
			{Wide: true, Signs: "aé", Widths: []int{600, 600}},
		},
		Pages: [][]api.Run{nil, {
			{Font: 0, Size: 10000, At: api.Point{X: 50000, Y: 700000}, Text: "ab a"},
			{Font: 1, Size: 12000, At: api.Point{X: 50000, Y: 680500}, Text: "éa"},
			{Font: 0, Size: 10000, At: api.Point{X: 90000, Y: 700250}, Text: "ba"},
		}},
	}
	each := []api.Hit{
		{From: 0, To: 1, Boxes: []api.Box{{X0: 50000, Y0: 700000, X1: 55000, Y1: 710000}}},
		{From: 3, To: 4, Boxes: []api.Box{{X0: 65000, Y0: 700000, X1: 70000, Y1: 710000}}},
		{From: 6, To: 7, Boxes: []api.Box{{X0: 95000, Y0: 700250, X1: 100000, Y1: 710250}}},
		{From: 9, To: 10, Boxes: []api.Box{{X0: 57200, Y0: 680500, X1: 64400, Y1: 692500}}},
	}
	over := []api.Hit{{From: 3, To: 9, Boxes: []api.Box{{X0: 65000, Y0: 700000, X1: 100000, Y1: 710250}, {X0: 50000, Y0: 680500, X1: 57200, Y1: 692500}}}}
	for _, names := range [][]string{nil, {"ASCIIHexDecode", "RunLengthDecode"}, {"ASCII85Decode"}} {
		spec.Filter = names
		s, err := press.Build(spec)
		if err != nil {
			t.Fatal(err)
		}
		l, err := pages.Read(s)
		if err != nil || len(l) != 2 {
			t.Fatalf("Read: %d pages, %v", len(l), err)
		}
		for _, c := range []struct {
			page  int
			p     string
			alike bool
			want  []api.Hit
		}{
			{1, "a", false, each},
			{1, "A", true, each},
			{1, "A", false, nil},
			{1, "a ba\né", false, over},
			{1, "ab a", false, []api.Hit{{From: 0, To: 4, Boxes: []api.Box{{X0: 50000, Y0: 700000, X1: 70000, Y1: 710000}}}}},
			{0, "a", false, nil},
		} {
			hits, err := search.Page(l[c.page].Glyphs, c.p, c.alike)
			if err != nil || fmt.Sprint(hits) != fmt.Sprint(c.want) {
				t.Errorf("page %d by %q, %q, %t: %v, %v, want %v", c.page, names, c.p, c.alike, hits, err, c.want)
			}
		}
	}
}

// drawn: glyphs in a few lines, with room between some.
func drawn(r *rand.Rand) []api.Glyph {
	texts := []string{"a", "A", "b", "B", "ab", "", " ", "é", "É"}
	l := make([]api.Glyph, r.Intn(14))
	for i := range l {
		l[i] = g(texts[r.Intn(len(texts))], 4*r.Intn(10), 3*r.Intn(8))
		l[i].Size = 3000 * (r.Intn(6) - 1)
		x, y := r.Intn(50)-25, r.Intn(50)-25
		l[i].Box = api.Box{X0: x, Y0: y, X1: x + r.Intn(9), Y1: y + r.Intn(9)}
	}
	return l
}

// pattern that often stands there: a piece of a text, its letters turned or not.
func pattern(r *rand.Rand, s []rune) string {
	if len(s) == 0 || r.Intn(5) == 0 {
		return []string{"a", "ab", " ", "\n", "Ab"}[r.Intn(5)]
	}
	from := r.Intn(len(s))
	p := string(s[from : from+1+r.Intn(min(len(s)-from, 8))])
	return []string{p, strings.ToUpper(p), strings.ToLower(p)}[r.Intn(3)]
}

// ascii: a text with small letters for A to Z alone.
func ascii(s string) string {
	b := []byte(s)
	for i, c := range b {
		if strings.IndexByte("ABCDEFGHIJKLMNOPQRSTUVWXYZ", c) >= 0 {
			b[i] = c | 32
		}
	}
	return string(b)
}

// model of hits: the text is held against the pattern at each byte, a line's box is grown sign by sign.
func model(l []api.Glyph, p string, alike bool) []api.Hit {
	t := layout.Of(l)
	s := string(t.Signs)
	if alike {
		s, p = ascii(s), ascii(p)
	}
	var hits []api.Hit
	for at := range s {
		if !strings.HasPrefix(s[at:], p) {
			continue
		}
		h := api.Hit{From: len([]rune(s[:at]))}
		h.To = h.From + len([]rune(p))
		for line := range len(l) {
			var x, y []int
			for i, n := range t.Of[h.From:h.To] {
				if n >= 0 && t.Line[h.From+i] == line {
					x, y = append(x, l[n].Box.X0, l[n].Box.X1), append(y, l[n].Box.Y0, l[n].Box.Y1)
				}
			}
			if len(x) > 0 {
				h.Boxes = append(h.Boxes, api.Box{X0: slices.Min(x), Y0: slices.Min(y), X1: slices.Max(x), Y1: slices.Max(y)})
			}
		}
		hits = append(hits, h)
	}
	return hits
}

func TestModel(t *testing.T) { // L1, L2, W4
	r := rand.New(rand.NewSource(13))
	var boxes [4]int
	for range 30000 {
		l := drawn(r)
		p, alike := pattern(r, layout.Of(l).Signs), r.Intn(2) == 0
		want := model(l, p, alike)
		got, err := search.Page(l, p, alike)
		if err != nil || fmt.Sprint(got) != fmt.Sprint(want) {
			t.Fatalf("Page(%v, %q, %t): %v, %v, want %v", l, p, alike, got, err, want)
		}
		for _, h := range got {
			boxes[min(len(h.Boxes), 3)]++
		}
	}
	for n, many := range boxes {
		if many < 300 {
			t.Errorf("%d hits with %d boxes: too few", many, n)
		}
	}
}

func TestEnds(t *testing.T) { // Z1: at all glyphs, and all texts
	numbers := []int{math.MinInt, -api.MaxFix, -1, 0, 1, api.MaxFix, math.MaxInt}
	texts := []string{"", "a", "\xff", "a\xc3", "\x00", "\ufffd", "\n"}
	r := rand.New(rand.NewSource(14))
	n := func() int { return numbers[r.Intn(len(numbers))] }
	for range 5000 {
		l := make([]api.Glyph, r.Intn(6))
		for i := range l {
			l[i] = api.Glyph{Text: texts[r.Intn(len(texts))], At: api.Point{X: n(), Y: n()}, End: api.Point{X: n(), Y: n()}, Size: n(), Box: api.Box{X0: n(), Y0: n(), X1: n(), Y1: n()}}
		}
		for _, p := range texts {
			hits, err := search.Page(l, p, r.Intn(2) == 0)
			if (err == api.ErrEmpty) != (p == "") || err != nil && len(hits) != 0 {
				t.Fatalf("Page(%v, %q): %v, %v", l, p, hits, err)
			}
		}
	}
	wild := []rune{math.MinInt32, -1, 0x10ffff + 1, 0xd800, math.MaxInt32}
	for i, x := range wild {
		if l, err := search.Find(wild, []rune{x}, true); err != nil || !slices.Equal(l, []int{i}) {
			t.Errorf("Find(%d, %d): %d, %v", wild, x, l, err)
		}
	}
}

func TestFresh(t *testing.T) { // Z2
	all := append(page(), g("a", 25, 99))
	l, kept := all[:len(all)-1], slices.Clone(all)
	const want = "0-1 [0 102 5 112]; 3-4 [20 99 25 109]; 13-14 [10 60 15 70]"
	hits, err := search.Page(l, "A", true)
	if got := short(hits); err != nil || got != want {
		t.Fatalf("Page: %s, %v", got, err)
	}
	for i := range hits { // no two lists share memory, also behind their ends
		first := hits[i].Boxes[:cap(hits[i].Boxes)]
		for k := range first {
			first[k] = api.Box{X0: -1}
		}
		if i+1 < len(hits) && !strings.HasSuffix(want, short(hits[i+1:])) {
			t.Errorf("two hits share a list: %s", short(hits))
		}
	}
	if hits, err = search.Page(l, "A", true); err != nil || short(hits) != want || !slices.Equal(all, kept) {
		t.Errorf("Page, again: %s, %v; glyphs: %v", short(hits), err, all)
	}
	s, p := []rune("aAbaAa")[:5], []rune("AaA")[:2]
	found, err := search.Find(s, p, true)
	if fmt.Sprint(found) != "[0 3]" || err != nil || string(s[:6]) != "aAbaAa" || string(p[:3]) != "AaA" {
		t.Errorf("Find: %d, %v; signs are %q and %q now", found, err, s, p)
	}
}
