package paint_test

import (
	"fmt"
	"maps"
	"math"
	"math/rand"
	"reflect"
	"slices"
	"strings"
	"testing"

	"foliowright/api"
	"foliowright/fix"
	"foliowright/ops"
	"foliowright/paint"
	"foliowright/value"
)

func num(n int) api.Value           { return api.Value{Kind: api.Num, N: n} }
func str(s string) api.Value        { return api.Value{Kind: api.Str, S: s} }
func name(s string) api.Value       { return api.Value{Kind: api.Name, S: s} }
func ref(n int) api.Value           { return api.Value{Kind: api.Ref, N: n} }
func flag(n int) api.Value          { return api.Value{Kind: api.Flag, N: n} }
func list(l ...api.Value) api.Value { return api.Value{Kind: api.List, L: l} }
func dict(l ...api.Field) api.Value { return api.Value{Kind: api.Dict, F: l} }

// op of a page, behind these values.
func op(n string, args ...api.Value) api.Op { return api.Op{Name: n, Args: args} }

// fonts that the pages below choose from: a narrow one, a wide one, one that has names and codes, and one that has nothing.
func fonts() map[string]api.Font {
	return map[string]api.Font{
		"F": {Widths: map[int]int{'a': 500, 'b': 250, 32: 300}, Miss: 100},
		"W": {Wide: true, Widths: map[int]int{'a': 500, 32: 300, 0x2020: 200}, Miss: 100, Codes: []api.Span{{From: 'a', To: 'c', Text: "x"}, {From: 32, To: 32, Text: "sp"}}},
		"N": {Miss: 1000, Names: map[int]string{'b': "uni20AC", 'c': "none", 32: "A"}, Codes: []api.Span{{From: 'd', To: 'd', Text: "fi"}}},
		"O": {},
		"-": {Widths: map[int]int{'a': -500}},
		"B": {Miss: 3000},
	}
}

// told: operators, as a page has them.
func told(t *testing.T, s string) []api.Op {
	t.Helper()
	l, err := ops.Parse(s)
	if err != nil {
		t.Fatalf("Parse(%.300q): %v", s, err)
	}
	return l
}

// short form of glyphs: text, where each begins and ends, its size, its box.
func short(l []api.Glyph) string {
	var b strings.Builder
	for i, g := range l {
		if i > 0 {
			b.WriteString("; ")
		}
		b.WriteString(g.Text)
		for _, n := range []int{g.At.X, g.At.Y, g.End.X, g.End.Y, g.Size, g.Box.X0, g.Box.Y0, g.Box.X1, g.Box.Y1} {
			s, err := fix.Text(n)
			if err != nil {
				s = fmt.Sprint(n, err)
			}
			b.WriteString(" " + s)
		}
	}
	return b.String()
}

// paints: a page is painted, and has these glyphs.
func paints(t *testing.T, s, want string) {
	t.Helper()
	l, err := paint.Page(told(t, s), fonts())
	if got := short(l); err != nil || got != want {
		t.Errorf("Page(%.300q): %.500s, %v, want %.500s", s, got, err, want)
	}
}

// refuses: operators tell this error, and nothing besides.
func refuses(t *testing.T, l []api.Op, want error) {
	t.Helper()
	if g, err := paint.Page(l, fonts()); err != want || len(g) != 0 {
		t.Errorf("Page(%.300s): %.300s, %v, want %v alone", fmt.Sprint(l), short(g), err, want)
	}
}

// fails: a page tells this error, and nothing besides.
func fails(t *testing.T, s string, want error) {
	t.Helper()
	refuses(t, told(t, s), want)
}

// passes: a page has so many glyphs, and no error.
func passes(t *testing.T, s string, many int) []api.Glyph {
	t.Helper()
	l, err := paint.Page(told(t, s), fonts())
	if err != nil || len(l) != many {
		t.Errorf("Page(%.300q): %d glyphs, %v, want %d", s, len(l), err, many)
	}
	return l
}

// same: both pages have just the same glyphs.
func same(t *testing.T, s, s2 string) {
	t.Helper()
	l, err := paint.Page(told(t, s), fonts())
	l2, err2 := paint.Page(told(t, s2), fonts())
	if err != err2 || !slices.Equal(l, l2) {
		t.Errorf("Page(%.300q): %.300s, %v; Page(%.300q): %.300s, %v", s, short(l), err, s2, short(l2), err2)
	}
}

// table of pages, and of what is painted on them.
func table(t *testing.T, l [][2]string) {
	t.Helper()
	for _, x := range l {
		paints(t, x[0], x[1])
	}
}

func TestState(t *testing.T) { // I1
	table(t, [][2]string{
		{"", ""}, {"BT ET", ""}, {"BT", ""}, {"q", ""}, {"q Q", ""}, {"BT ET BT ET", ""}, {"q BT Q ET", ""}, {"BT q ET Q", ""},
		{"BT /F 10 Tf (a) Tj ET", "a 0 0 5 0 10 0 0 5 10"},
		{"BT /F 10 Tf (a) Tj", "a 0 0 5 0 10 0 0 5 10"},
		{"/F 10 Tf BT (a) Tj ET", "a 0 0 5 0 10 0 0 5 10"},
		{"BT /F 10 Tf (ab a) Tj ET", "a 0 0 5 0 10 0 0 5 10; b 5 0 7.5 0 10 5 0 7.5 10;   7.5 0 10.5 0 10 7.5 0 10.5 10; a 10.5 0 15.5 0 10 10.5 0 15.5 10"},
		{"BT /F 10 Tf (a) Tj /F 4 Tf (c) Tj ET", "a 0 0 5 0 10 0 0 5 10; c 5 0 5.4 0 4 5 0 5.4 4"},
		{"BT /F 10 Tf /O 7 Tf (a) Tj ET", "a 0 0 0 0 7 0 0 0 7"},
		{"BT /F 0 Tf (ab) Tj ET", "a 0 0 0 0 0 0 0 0 0; b 0 0 0 0 0 0 0 0 0"},
		{"BT /F -10 Tf (aa) Tj ET", "a 0 0 -5 0 -10 -5 -10 0 0; a -5 0 -10 0 -10 -10 -10 -5 0"},
		{"BT /- 10 Tf (aa) Tj ET", "a 0 0 -5 0 10 -5 0 0 10; a -5 0 -10 0 10 -10 0 -5 10"},
	})
}

func TestPageMatrix(t *testing.T) { // I1, I3
	table(t, [][2]string{
		{"2 0 0 3 10 20 cm BT /F 10 Tf (ab) Tj", "a 10 20 20 20 10 10 20 20 50; b 20 20 25 20 10 20 20 25 50"},
		{"1 0 0 1 10 0 cm 2 0 0 2 0 0 cm BT /F 10 Tf (a) Tj", "a 10 0 20 0 10 10 0 20 20"},
		{"2 0 0 2 0 0 cm 1 0 0 1 10 0 cm BT /F 10 Tf (a) Tj", "a 20 0 30 0 10 20 0 30 20"},
		{"0 1 -1 0 0 0 cm BT /F 10 Tf 5 0 Td (a) Tj", "a 0 5 0 10 10 -10 5 0 10"},
		{"1 .5 0 1 0 0 cm BT /F 10 Tf (a) Tj", "a 0 0 5 2.5 10 0 0 5 12.5"},
		{"1 1 -1 1 0 0 cm BT /F 10 Tf (a) Tj", "a 0 0 5 5 10 -10 0 5 15"}, // each corner is on another side of its box
		{"-1 0 0 -1 0 0 cm BT /F 10 Tf 1 2 Td (a) Tj", "a -1 -2 -6 -2 10 -6 -12 -1 -2"},
		{"BT /F 10 Tf (a) Tj 1 0 0 1 1 1 cm (a) Tj", "a 0 0 5 0 10 0 0 5 10; a 6 1 11 1 10 6 1 11 11"},
		{"0 0 0 0 7 8 cm BT /F 10 Tf (a) Tj", "a 7 8 7 8 10 7 8 7 8"},
	})
}

func TestSetters(t *testing.T) { // I1, I3
	table(t, [][2]string{
		{"BT /F 10 Tf 2 Tc (aa) Tj", "a 0 0 5 0 10 0 0 5 10; a 7 0 12 0 10 7 0 12 10"},
		{"BT /F 10 Tf -2.5 Tc (aa) Tj", "a 0 0 5 0 10 0 0 5 10; a 2.5 0 7.5 0 10 2.5 0 7.5 10"},
		{"BT /F 10 Tf 3 Tw (a b) Tj", "a 0 0 5 0 10 0 0 5 10;   5 0 8 0 10 5 0 8 10; b 11 0 13.5 0 10 11 0 13.5 10"},
		{"BT /F 10 Tf 3 Tw 1 Tc ( b) Tj", "  0 0 3 0 10 0 0 3 10; b 7 0 9.5 0 10 7 0 9.5 10"},
		{"3 Tw 1 Tc BT /F 10 Tf ( b) Tj", "  0 0 3 0 10 0 0 3 10; b 7 0 9.5 0 10 7 0 9.5 10"},
		{"BT /F 10 Tf 50 Tz (aa) Tj", "a 0 0 2.5 0 10 0 0 2.5 10; a 2.5 0 5 0 10 2.5 0 5 10"},
		{"BT /F 10 Tf 50 Tz 2 Tc (aa) Tj", "a 0 0 2.5 0 10 0 0 2.5 10; a 3.5 0 6 0 10 3.5 0 6 10"},
		{"BT /F 10 Tf 50 Tz 2 Tw ( a) Tj", "  0 0 1.5 0 10 0 0 1.5 10; a 2.5 0 5 0 10 2.5 0 5 10"},
		{"BT /F 10 Tf -100 Tz (aa) Tj", "a 0 0 -5 0 10 -5 0 0 10; a -5 0 -10 0 10 -10 0 -5 10"},
		{"BT /F 10 Tf 0 Tz (aa) Tj", "a 0 0 0 0 10 0 0 0 10; a 0 0 0 0 10 0 0 0 10"},
		{"BT /F 1000 Tf .199 Tz (a) Tj", "a 0 0 0.5 0 1000 0 0 0.5 1000"}, // towards 0: a thousandth
		{"BT /F 1000 Tf -.199 Tz (a) Tj", "a 0 0 -0.5 0 1000 -0.5 0 0 1000"},
		{"BT /F 1000 Tf .099 Tz (a) Tj", "a 0 0 0 0 1000 0 0 0 1000"},
		{"BT /F 1000 Tf -.099 Tz (a) Tj", "a 0 0 0 0 1000 0 0 0 1000"},
		{"BT /F 10 Tf 3 Ts (a) Tj -1 Ts (a) Tj", "a 0 3 5 3 10 0 3 5 13; a 5 -1 10 -1 10 5 -1 10 9"},
		{"BT /F 10 Tf 3 Ts 50 Tz (a) Tj", "a 0 3 2.5 3 10 0 3 2.5 13"},
		{"BT /F 10 Tf 3 Ts 2 0 0 2 0 0 Tm (a) Tj", "a 0 6 10 6 10 0 6 10 26"},
		{"BT /F 10 Tf 12 TL T* (a) Tj", "a 0 -12 5 -12 10 0 -12 5 -2"},
		{"BT /F 10 Tf 2 Tc 5 Tc 0 Tc (aa) Tj", "a 0 0 5 0 10 0 0 5 10; a 5 0 10 0 10 5 0 10 10"},
	})
}

func TestSaved(t *testing.T) { // I1, W3
	const all = "1 2 3 4 5 6 cm /W 3 Tf 1 Tc 2 Tw 33 Tz 4 TL 5 Ts "
	const shown = "(a b) Tj T* (b a) Tj [(a) 100 (b)] TJ "
	for _, first := range []string{"", "BT ", "/F 7 Tf ", "/F 7 Tf 9 Tc 8 Tw 150 Tz 7 TL 6 Ts 2 0 0 3 1 1 cm BT "} {
		rest := " /F 7 Tf " + shown
		if !strings.Contains(first, "BT") {
			rest = " BT" + rest
		}
		same(t, first+"q "+all+"Q"+rest, first+rest)
		same(t, first+"q "+all+"q "+all+" q Q Q Q"+rest, first+rest)
		same(t, first+"q Q"+rest, first+rest)
		same(t, first+"q "+all+"q 0 Tc 0 0 0 0 0 0 cm Q"+rest+"Q", first+all+rest)
	}
	same(t, "BT /F 7 Tf q /W 9 Tf Q "+shown, "BT /F 7 Tf "+shown)
	same(t, "BT /F 7 Tf q /F 9 Tf Q "+shown, "BT /F 7 Tf "+shown)
	fails(t, "BT q /F 7 Tf Q (a) Tj", api.ErrNone) // the state that was saved had no font
	table(t, [][2]string{
		{"BT /F 10 Tf q 5 6 Td Q (a) Tj", "a 5 6 10 6 10 5 6 10 16"}, // T and L aren't of the state
		{"BT /F 10 Tf q (a) Tj Q (a) Tj", "a 0 0 5 0 10 0 0 5 10; a 5 0 10 0 10 5 0 10 10"},
		{"BT /F 10 Tf 5 5 Td q 1 0 0 1 9 9 Tm Q 1 1 Td (a) Tj", "a 10 10 15 10 10 10 10 15 20"},
		{"/F 10 Tf q BT Q (a) Tj", "a 0 0 5 0 10 0 0 5 10"}, // nor is whether it is in text
		{"BT /F 10 Tf q 5 -6 TD Q T* (a) Tj", "a 5 -6 10 -6 10 5 -6 10 4"},
	})
	fails(t, "/F 10 Tf BT q ET Q (a) Tj", api.ErrNone)
}

func TestSavedLimit(t *testing.T) { // I1
	for n := range api.MaxStack + 1 {
		passes(t, strings.Repeat("q ", n), 0)
		passes(t, strings.Repeat("q ", n)+strings.Repeat("Q ", n), 0)
		fails(t, strings.Repeat("q ", n)+strings.Repeat("Q ", n+1), api.ErrStack)
	}
	fails(t, strings.Repeat("q ", api.MaxStack+1), api.ErrStack)
	fails(t, strings.Repeat("q ", api.MaxStack)+"Q q q", api.ErrStack)
	passes(t, strings.Repeat("q ", api.MaxStack)+"Q q", 0)
	passes(t, strings.Repeat("q Q ", 500), 0)
	fails(t, "Q", api.ErrStack)
	fails(t, "Q q", api.ErrStack)
	fails(t, "q Q Q", api.ErrStack)
	fails(t, "BT /F 1 Tf (a) Tj ET Q", api.ErrStack)
}

func TestInText(t *testing.T) { // I1, I3
	for _, s := range []string{"BT BT", "ET", "BT ET ET", "BT ET BT BT", "q ET", "BT q BT", "BT /F 1 Tf (a) Tj BT"} {
		fails(t, s, api.ErrStack)
	}
	for _, s := range []string{"(a) Tj", "/F 1 Tf (a) Tj", "/F 1 Tf BT ET (a) Tj", "/F 1 Tf (a) '", "/F 1 Tf [(a)] TJ", "/F 1 Tf [1 (a)] TJ", "/F 1 Tf () Tj", "/F 1 Tf () '", "/F 1 Tf [()] TJ", "BT (a) Tj", "BT () Tj",
		"BT (a) '", "BT [(a)] TJ", "BT [()] TJ", "BT 5 Tc 6 TL (a) Tj", "BT q /F 1 Tf Q () Tj"} {
		fails(t, s, api.ErrNone)
	}
	for _, s := range []string{"1 2 Td", "1 2 TD", "1 2 3 4 5 6 Tm", "T*", "[] TJ", "[1 2] TJ", "/F 1 Tf [1 2] TJ", "BT [] TJ", "BT [1 2] TJ", "BT 1 2 Td 1 2 TD T* 1 2 3 4 5 6 Tm", "1 Tc 1 Tw 1 Tz 1 TL 1 Ts 1 2 3 4 5 6 cm /O 1 Tf"} {
		passes(t, s, 0)
	}
	same(t, "5 6 Td BT /F 9 Tf (a) Tj", "BT /F 9 Tf (a) Tj")
	same(t, "1 2 3 4 5 6 Tm BT /F 9 Tf T* (a) Tj", "BT /F 9 Tf (a) Tj")
	same(t, "BT 5 6 Td 1 2 3 4 5 6 Tm ET BT /F 9 Tf (a) Tj 1 1 Td (a) Tj", "BT /F 9 Tf (a) Tj 1 1 Td (a) Tj")
	same(t, "BT 5 6 TD ET BT /F 9 Tf T* (a) Tj", "BT /F 9 Tf 0 6 Td (a) Tj") // the lead stays
	passes(t, "BT 1000000 0 Td ET 1000000 0 Td", 0)                          // behind text they are Unit, too
	fails(t, "BT 1000000 0 Td 1000000 0 Td ET", api.ErrBound)
	fails(t, "[-1000] TJ /F 1000000 Tf [-1000] TJ [-1000] TJ", api.ErrBound)
	passes(t, "[-1000] TJ [-1000] TJ /F 1000000 Tf [-1000] TJ", 0) // with no font, the size is 0
}

func TestFonts(t *testing.T) { // I1, I3
	for _, n := range []string{"X", "f", "FF", "F#20", "F0"} {
		fails(t, "/"+n+" 10 Tf", api.ErrNone)
		fails(t, "BT /F 10 Tf /"+n+" 10 Tf", api.ErrNone)
	}
	for _, m := range []map[string]api.Font{nil, {}, {"G": {}}} {
		if l, err := paint.Page(told(t, "/F 10 Tf"), m); err != api.ErrNone || len(l) != 0 {
			t.Errorf("a font of %v: %v, %v", m, l, err)
		}
		if l, err := paint.Page(told(t, "BT ET"), m); err != nil || len(l) != 0 {
			t.Errorf("no font of %v: %v, %v", m, l, err)
		}
	}
	l, err := paint.Page([]api.Op{op("BT"), op("Tf", name("a b\xff"), num(1000)), op("Tj", str("a"))}, map[string]api.Font{"a b\xff": {Miss: 7}})
	if want := "a 0 0 0.007 0 1 0 0 0.007 1"; err != nil || short(l) != want {
		t.Errorf("a font of another name: %s, %v", short(l), err)
	}
}

func TestSigns(t *testing.T) { // I3
	table(t, [][2]string{
		{"BT /N 10 Tf (abcd \\200) Tj", "a 0 0 10 0 10 0 0 10 10; € 10 0 20 0 10 10 0 20 10;  20 0 30 0 10 20 0 30 10; fi 30 0 40 0 10 30 0 40 10; A 40 0 50 0 10 40 0 50 10;  50 0 60 0 10 50 0 60 10"},
		{"BT /W 10 Tf <00610062> Tj", "x 0 0 5 0 10 0 0 5 10; y 5 0 6 0 10 5 0 6 10"},
		{"BT /W 10 Tf 3 Tw <002000612020> Tj", "sp 0 0 3 0 10 0 0 3 10; x 3 0 8 0 10 3 0 8 10;  8 0 10 0 10 8 0 10 10"}, // no word of a wide font
		{"BT /W 10 Tf 3 Tc <00200061> Tj", "sp 0 0 3 0 10 0 0 3 10; x 6 0 11 0 10 6 0 11 10"},
		{"BT /N 10 Tf 3 Tw ( d) Tj", "A 0 0 10 0 10 0 0 10 10; fi 13 0 23 0 10 13 0 23 10"}, // it is the code that counts
		{"BT /N 10 Tf 3 Tw (\\240d) Tj", " 0 0 10 0 10 0 0 10 10; fi 10 0 20 0 10 10 0 20 10"},
		{"BT /F 10 Tf () Tj", ""}, {"BT /F 10 Tf () '", ""}, {"BT /F 10 Tf [()()] TJ", ""}, {"BT /W 10 Tf () Tj", ""},
	})
	for _, s := range []string{"(a) Tj", "<000000> Tj", "(abc) '", "[(a)] TJ", "[<0000> (a)] TJ", "<0000> Tj (a) Tj"} {
		fails(t, "BT /W 10 Tf "+s, api.ErrText)
	}
}

func TestMoves(t *testing.T) { // I2
	table(t, [][2]string{
		{"BT /F 10 Tf 50 700 Td (a) Tj", "a 50 700 55 700 10 50 700 55 710"},
		{"BT /F 10 Tf 50 700 Td (a) Tj 3 -20.5 Td (a) Tj", "a 50 700 55 700 10 50 700 55 710; a 53 679.5 58 679.5 10 53 679.5 58 689.5"},
		{"BT /F 10 Tf 2 0 0 3 1 1 Tm 5 7 Td (a) Tj", "a 11 22 21 22 10 11 22 21 52"},
		{"BT /F 10 Tf 5 7 Td 2 0 0 3 1 1 Tm (a) Tj", "a 1 1 11 1 10 1 1 11 31"},
		{"BT /F 10 Tf 1 0 .2 1 50 60 Tm (a) Tj 0 -10 Td (a) Tj", "a 50 60 55 60 10 50 60 57 70; a 48 50 53 50 10 48 50 55 60"},
		{"BT /F 10 Tf 0 1 -1 0 0 0 Tm (aa) Tj", "a 0 0 0 5 10 -10 0 0 5; a 0 5 0 10 10 -10 5 0 10"},
		{"BT /F 10 Tf 5 -14 TD (a) Tj T* (a) Tj T* (b) Tj", "a 5 -14 10 -14 10 5 -14 10 -4; a 5 -28 10 -28 10 5 -28 10 -18; b 5 -42 7.5 -42 10 5 -42 7.5 -32"},
		{"BT /F 10 Tf 5 14 TD T* (a) Tj", "a 5 28 10 28 10 5 28 10 38"},
		{"BT /F 10 Tf 9 TL 5 -14 TD 3 TL T* (a) Tj", "a 5 -17 10 -17 10 5 -17 10 -7"},
		{"BT /F 10 Tf 12 TL 5 100 Td (a) Tj T* (a) Tj", "a 5 100 10 100 10 5 100 10 110; a 5 88 10 88 10 5 88 10 98"},
		{"BT /F 10 Tf -12 TL T* (a) Tj", "a 0 12 5 12 10 0 12 5 22"},
		{"BT /F 10 Tf T* (a) Tj", "a 0 0 5 0 10 0 0 5 10"},
		{"BT /F 10 Tf (a) Tj T* (a) Tj", "a 0 0 5 0 10 0 0 5 10; a 0 0 5 0 10 0 0 5 10"},
		{"BT /F 10 Tf 12 TL (ab) ' (a) '", "a 0 -12 5 -12 10 0 -12 5 -2; b 5 -12 7.5 -12 10 5 -12 7.5 -2; a 0 -24 5 -24 10 0 -24 5 -14"},
		{"BT /F 10 Tf 2 0 0 2 0 0 Tm 12 TL (a) '", "a 0 -24 10 -24 10 0 -24 10 -4"},
		{"BT /F 10 Tf 2 0 0 2 0 0 Tm (aa) Tj", "a 0 0 10 0 10 0 0 10 20; a 10 0 20 0 10 10 0 20 20"},
		{"BT /F 10 Tf 2 0 0 2 1 1 Tm 1 0 0 1 3 4 Tm (a) Tj", "a 3 4 8 4 10 3 4 8 14"},
		{"BT /F 10 Tf 1 0 0 1 3 4 Tm (a) Tj 1 1 Td (a) Tj", "a 3 4 8 4 10 3 4 8 14; a 4 5 9 5 10 4 5 9 15"},
		{"BT /F 10 Tf 2 0 0 2 10 10 cm 5 5 Td (a) Tj", "a 20 20 30 20 10 20 20 30 40"},
		{"BT /F 10 Tf 5 5 Td 1 0 0 -1 0 100 cm (a) Tj", "a 5 95 10 95 10 5 85 10 95"},
	})
}

func TestLists(t *testing.T) { // I2
	table(t, [][2]string{
		{"BT /F 10 Tf [] TJ (a) Tj", "a 0 0 5 0 10 0 0 5 10"},
		{"BT /F 10 Tf [(a)(b)] TJ", "a 0 0 5 0 10 0 0 5 10; b 5 0 7.5 0 10 5 0 7.5 10"},
		{"BT /F 10 Tf [(a) -120 (b) 30.9 (a)] TJ", "a 0 0 5 0 10 0 0 5 10; b 6.2 0 8.7 0 10 6.2 0 8.7 10; a 8.4 0 13.4 0 10 8.4 0 13.4 10"},
		{"BT /F 10 Tf [-30.999 (a) .999 (a) -.999 (a)] TJ", "a 0.3 0 5.3 0 10 0.3 0 5.3 10; a 5.3 0 10.3 0 10 5.3 0 10.3 10; a 10.3 0 15.3 0 10 10.3 0 15.3 10"},
		{"BT /F 10 Tf 50 Tz [(a) -120 (b)] TJ", "a 0 0 2.5 0 10 0 0 2.5 10; b 3.1 0 4.35 0 10 3.1 0 4.35 10"},
		{"BT /F 10 Tf 9 Tc 9 Tw [100 (a)] TJ", "a -1 0 4 0 10 -1 0 4 10"}, // just strings are set apart
		{"BT /F 10 Tf [100 100] TJ [100] TJ (a) Tj", "a -3 0 2 0 10 -3 0 2 10"},
		{"BT /F 10 Tf [100] TJ T* (a) Tj", "a 0 0 5 0 10 0 0 5 10"}, // the line's beginning stays
		{"BT /F 10 Tf 2 0 0 2 0 0 Tm [-100 (a)] TJ", "a 2 0 12 0 10 2 0 12 20"},
		{"BT /F .5 Tf [1 (a)] TJ", "a -0.001 0 0.249 0 0.5 -0.001 0 0.249 0.5"}, // a product is rounded down
		{"BT /F .5 Tf [-1 (a)] TJ", "a 0 0 0.25 0 0.5 0 0 0.25 0.5"},
		{"BT /F 1.5 Tf 50 Tz [-1 (a)] TJ", "a 0 0 0.375 0 1.5 0 0 0.375 1.5"}, // each of both products is
		{"BT /F 1.5 Tf 50 Tz [-3 (a)] TJ", "a 0.002 0 0.377 0 1.5 0.002 0 0.377 1.5"},
		{"BT /F 1.5 Tf 50 Tz [3 (a)] TJ", "a -0.003 0 0.372 0 1.5 -0.003 0 0.372 1.5"},
	})
	for _, s := range []string{"[true]", "[null]", "[/a]", "[[]]", "[[(a)]]", "[<<>>]", "[3 0 R]", "[1 (a) null]", "[(a) /a (b)]"} {
		fails(t, "BT /F 10 Tf "+s+" TJ", api.ErrKind)
	}
}

func TestRounded(t *testing.T) { // I3, I4, W6
	table(t, [][2]string{
		{"BT /F .001 Tf (aa) Tj", "a 0 0 0 0 0.001 0 0 0 0.001; a 0 0 0 0 0.001 0 0 0 0.001"},
		{"BT /F -.001 Tf (aa) Tj", "a 0 0 -0.001 0 -0.001 -0.001 -0.001 0 0; a -0.001 0 -0.002 0 -0.001 -0.002 -0.001 -0.001 0"},
		{"BT /F .003 Tf 50 Tz (a) Tj", "a 0 0 0 0 0.003 0 0 0 0.003"}, // size times scale is .001, half of which is 0
		{"BT /F .003 Tf -50 Tz (a) Tj", "a 0 0 -0.001 0 0.003 -0.001 0 0 0.003"},
		{"BT /F .01 Tf .5 0 0 .5 0 0 cm (aa) Tj", "a 0 0 0.002 0 0.01 0 0 0.002 0.005; a 0.002 0 0.004 0 0.01 0.002 0 0.004 0.005"},
		{"BT /F 10 Tf .001 0 0 .001 0 0 Tm 0.5 -0.5 Td (a) Tj", "a 0 -0.001 0.005 -0.001 10 0 -0.001 0.005 0.009"},
		{"BT /F .5 Tf .001 Tc 50 Tz (aa) Tj", "a 0 0 0.125 0 0.5 0 0 0.125 0.5; a 0.125 0 0.25 0 0.5 0.125 0 0.25 0.5"}, // .251 times a half
	})
}

func TestKinds(t *testing.T) { // I1, I2
	others := []api.Value{{}, flag(1), name("F"), ref(3), dict(), str("1"), list(), list(num(1000)), num(1000)}
	wants := map[string][]api.Value{
		"q": {}, "Q": {}, "BT": {}, "ET": {}, "T*": {}, "Tc": {num(1)}, "Tw": {num(1)}, "Tz": {num(1)}, "TL": {num(1)}, "Ts": {num(1)}, "Td": {num(1), num(1)}, "TD": {num(1), num(1)},
		"cm": slices.Repeat([]api.Value{num(1)}, 6), "Tm": slices.Repeat([]api.Value{num(1)}, 6), "Tf": {name("F"), num(1)}, "Tj": {str("a")}, "'": {str("a")}, "TJ": {list()},
	}
	for n, args := range wants {
		before := []api.Op{op("Tf", name("F"), num(1000)), op("q"), op("BT")}
		if n == "BT" {
			before = before[:2]
		}
		with := func(args ...api.Value) []api.Op { return append(slices.Clone(before), op(n, args...)) }
		if _, err := paint.Page(with(args...), fonts()); err != nil {
			t.Errorf("%s of %v: %v", n, args, err)
		}
		for _, v := range others {
			refuses(t, with(append(slices.Clone(args), v)...), api.ErrKind)
			refuses(t, with(append([]api.Value{v}, args...)...), api.ErrKind)
		}
		for i := range args {
			refuses(t, with(slices.Delete(slices.Clone(args), i, i+1)...), api.ErrKind)
			for _, v := range others {
				if v.Kind != args[i].Kind {
					bad := slices.Clone(args)
					bad[i] = v
					refuses(t, with(bad...), api.ErrKind)
				}
			}
		}
	}
	refuses(t, []api.Op{op("Tf", num(1000), name("F"))}, api.ErrKind)
}

func TestNothing(t *testing.T) { // I1
	values := []api.Value{{}, flag(1), num(5), str("a"), name("X"), list(flag(0)), dict(), ref(3)}
	for _, n := range []string{"re", "\"", "Tr", "tj", "TJJ", "T", "*", "t*", "T**", "bt", "Et", "B", "CM", "Cm", "m", "l", "S", "f", "BX", "EX", "Do", "gs", "BDC", "EMC", "w", "qQ", "''", "R", "", "q ", " q", "Q\n", "BT\x00"} {
		for k := range len(values) + 1 {
			l := []api.Op{op("BT"), op("Tf", name("F"), num(10000)), op(n, values[:k]...), op("Tj", str("a")), op(n, values[k:]...)}
			g, err := paint.Page(l, fonts())
			if want := "a 0 0 5 0 10 0 0 5 10"; err != nil || short(g) != want {
				t.Errorf("%q: %s, %v", n, short(g), err)
			}
			if g, err := paint.Page([]api.Op{op(n, values[:k]...)}, nil); err != nil || len(g) != 0 {
				t.Errorf("%q alone: %s, %v", n, short(g), err)
			}
		}
	}
}

func TestOpsLimit(t *testing.T) { // I1
	for _, n := range []string{"T*", "x", "q"} {
		l := slices.Repeat([]api.Op{op(n)}, api.MaxOps)
		if _, err := paint.Page(l, nil); err != nil && n != "q" {
			t.Errorf("%d times %s: %v", len(l), n, err)
		}
		refuses(t, append(l, op(n)), api.ErrMany) // ahead of what is wrong with one
	}
	refuses(t, append(slices.Repeat([]api.Op{op("x")}, api.MaxOps), op("Q")), api.ErrMany)
	refuses(t, append(slices.Repeat([]api.Op{op("x")}, api.MaxOps-1), op("Q")), api.ErrStack)
	refuses(t, slices.Repeat([]api.Op{op("x")}, 3*api.MaxOps), api.ErrMany)
}

// full page: so many glyphs, at 0, in text.
func full(many int) string {
	s := "BT /O 1 Tf "
	for ; many > 0; many -= api.MaxBytes {
		s += "(" + strings.Repeat("a", min(many, api.MaxBytes)) + ") Tj "
	}
	return s
}

func TestGlyphsLimit(t *testing.T) { // I3
	for _, n := range []int{0, 1, 199, 200, 201, 999, 1000} {
		passes(t, full(n), n)
		passes(t, full(n)+"ET", n)
	}
	for _, n := range []int{1001, 1002, 1199, 1200, 1300} {
		fails(t, full(n), api.ErrMany)
	}
	for _, s := range []string{"(a) Tj", "(a) '", "[(a)] TJ", "ET BT (a) Tj", "/F 1 Tf (a) Tj"} {
		fails(t, full(api.MaxGlyphs)+s, api.ErrMany)
		passes(t, full(api.MaxGlyphs-1)+s, api.MaxGlyphs)
		passes(t, full(api.MaxGlyphs)+strings.ReplaceAll(s, "a", ""), api.MaxGlyphs)
	}
	passes(t, full(500)+"[(abc) 1 (de)] TJ", 505)
	fails(t, full(998)+"[(ab) 1 (c)] TJ", api.ErrMany)
	fails(t, full(998)+"(abc) Tj", api.ErrMany)
}

func TestBound(t *testing.T) { // I4
	for _, s := range []string{
		"1000000 0 Td .001 0 Td", "0 -1000000 Td 0 -.001 Td", "1000000 0 Td .001 0 TD", "1000000 0 0 1 0 0 Tm 1.001 0 Td", "1 0 0 1 1000000 0 cm 1 0 0 1 .001 0 cm", "2 0 0 2 0 0 cm 500001 0 0 1 0 0 cm",
		"1000000 TL T* T*", "-1000000 TL 0 1 Td T*", "0 1000000 TD T*", "BT /F 1 Tf 1000000 TL 0 -1 Td (a) '", "BT /F 1 Tf 1000000 TL 0 -1 Td () '",
		"/F 1001 Tf [-1000000] TJ", "/F 1001 Tf [1000000] TJ", "/F 1000 Tf 200 Tz [-1000000] TJ", "/F 1 Tf 999999 0 Td [-1001] TJ", "/F 1 Tf 999999 0 Td [-1000 -1] TJ", "2 0 0 2 0 0 Tm /F 1000 Tf [-500001] TJ",
		"BT /F 10 Tf 999996 0 Td (a) Tj", "BT /F 10 Tf 0 999990.001 Td (a) Tj", "BT /F 10 Tf 1000000 Ts (a) Tj", "BT /F 10 Tf 1000000 Ts 0 .001 Td (a) Tj", "BT /F 1000000 Tf 100.1 Tz (a) Tj", "BT /O 1000000 Tf 100.1 Tz (a) Tj",
		"BT /O 1 Tf 1000000 0 0 1 0 0 Tm 1.001 Tc (a) Tj", "BT /O 1 Tf 1000000 Tc 100.1 Tz (a) Tj", "BT /F 1000000 Tf 800000 Tc -500000 Tw ( ) Tj", "BT /F 1000000 Tf 500000.001 Tc (a) Tj", "BT /F 1 Tf 1000000 Tw 1 Tc ( ) Tj",
		"BT /O 1 Tf 1000000 Tc (aa) Tj", "BT /O 1 Tf 1 Tc 999999.5 0 Td (a) Tj", "BT /O 2 Tf 1000000 0 0 1 0 0 Tm (a) Tj", "BT /O 2 Tf 1000000 0 0 1 0 0 cm (a) Tj", "BT /O 1 Tf 0 1000000 Td 1 0 0 1 0 1 cm (a) Tj",
		"BT /B 333334 Tf 10 Tz (a) Tj", "BT /O 1 Tf 1 0 0 1 0 1000000 cm (a) Tj", "BT /N 1 Tf 1 0 0 1 999999.5 0 cm (a) Tj",
	} {
		fails(t, s, api.ErrBound)
	}
	for s, n := range map[string]int{
		"1000000 0 Td": 0, "1000000 1000000 Td -1000000 -1000000 Td": 0, "-1000000 0 Td 1000000 0 Td 1000000 0 Td": 0, "1000000 0 0 1 0 0 Tm 1 0 Td": 0, "1 0 0 1 1000000 0 cm": 0, "2 0 0 2 0 0 cm 500000 0 0 1 0 0 cm": 0,
		"1000000 TL T*": 0, "-1000000 TL T*": 0, "0 -1000000 TD": 0, "BT /F 1 Tf 1000000 TL () '": 0, "/F 1000 Tf [-1000000] TJ": 0, "/F 1000 Tf [1000000] TJ": 0, "/F 1 Tf 999999 0 Td [-1000] TJ": 0, "/F 1 Tf 999999 0 Td [-1000 1 -1] TJ": 0,
		"BT /F 10 Tf 999995 0 Td (a) Tj": 1, "BT /F 10 Tf 0 999990 Td (a) Tj": 1, "BT /F 10 Tf 999990 Ts (a) Tj": 1, "BT /F 1000000 Tf (a) Tj": 1, "BT /O 1 Tf 1000000 0 0 1 0 0 Tm 0 Tc (a) Tj": 1,
		"BT /F 1000000 Tf 700000 Tc -500000 Tw ( ) Tj": 1, "BT /F 1000000 Tf 500000 Tc (a) Tj": 1, "BT /O 1 Tf 1000000 Tc (a) Tj": 1, "BT /O 1 Tf 1000000 Tc 100 Tz (a) Tj": 1, "BT /F 1 Tf 999999.7 Tw ( ) Tj": 1,
		"BT /F 1000000 Tf 100.1 Tz () Tj": 0, "BT /F 10 Tf 1000000 Ts () Tj": 0, "1000000 1000000 1000000 1000000 1000000 1000000 Tm": 0, "BT 1000000 0 Td T* 0 0 Td": 0, "BT /B 333333 Tf 10 Tz (a) Tj": 1,
	} {
		passes(t, s, n)
	}
}

func TestFirstError(t *testing.T) { // I1 to I4, Z3
	eight := strings.Repeat("q ", api.MaxStack)
	for s, want := range map[string]error{
		eight + "1 q": api.ErrStack, "1 Q": api.ErrStack, "BT 1 BT": api.ErrStack, "1 ET": api.ErrStack, "1 q": api.ErrKind, "q 1 Q": api.ErrKind, "1 BT": api.ErrKind, "BT 1 ET": api.ErrKind,
		"/X (a) Tf": api.ErrKind, "/X Tf": api.ErrKind, "/X 1 1 Tf": api.ErrKind, "(X) 1 Tf": api.ErrKind,
		"5 Tj": api.ErrKind, "5 '": api.ErrKind, "5 TJ": api.ErrKind, "(a) TJ": api.ErrKind, "[(a)] Tj": api.ErrKind, "BT 5 Tj": api.ErrKind, "(a)(b) Tj": api.ErrKind,
		"1000000 TL T* 1 T*": api.ErrKind, "1000000 TL T* 5 '": api.ErrKind, "1000000 TL T* (a) '": api.ErrBound, "1000000 TL T* BT () '": api.ErrNone,
		"[true (a)] TJ": api.ErrKind, "[(a) true] TJ": api.ErrNone, "/F 1001 Tf [1000000 true] TJ": api.ErrBound, "/F 1001 Tf [true 1000000] TJ": api.ErrKind,
		"/W 1 Tf (a) Tj": api.ErrNone, "BT /W 1 Tf 1000000 Ts 0 1 Td (a) Tj": api.ErrText, "BT /W 1 Tf 1000000 Ts 0 1 Td (ab) Tj": api.ErrBound,
		"1000000 0 Td 1 (a) Td": api.ErrKind, "1 0 0 1 1000000 0 cm 1 0 0 1 1 null cm": api.ErrKind,
		"Q 5 Tj": api.ErrStack, "5 Tj Q": api.ErrKind, "/X 1 Tf Q": api.ErrNone, "Q /X 1 Tf": api.ErrStack, "BT /F 1 Tf (a) Tj BT Q 5 Tj": api.ErrStack, "1000000 0 Td 1 0 Td Q": api.ErrBound,
		full(api.MaxGlyphs) + "/W 1 Tf (a) Tj": api.ErrText, full(api.MaxGlyphs) + "/W 1 Tf (ab) Tj": api.ErrMany, full(api.MaxGlyphs) + "ET (a) Tj": api.ErrNone,
		full(api.MaxGlyphs) + "1000000 Ts 0 1 Td (a) Tj": api.ErrMany, full(api.MaxGlyphs-1) + "1000000 Ts 0 1 Td (aa) Tj": api.ErrBound, full(api.MaxGlyphs-1) + "1000000 0 Td 1 Tc (aa) Tj": api.ErrBound,
		full(api.MaxGlyphs) + "[(a) true] TJ": api.ErrMany, full(api.MaxGlyphs) + "[true (a)] TJ": api.ErrKind, full(api.MaxGlyphs) + "1000000 TL (a) '": api.ErrMany, full(api.MaxGlyphs) + "1000000 TL T* (a) '": api.ErrBound,
	} {
		fails(t, s, want)
	}
}

// some operators of a page in text, whose font is F, N or O.
func some(d *rand.Rand, many int) string {
	s := ""
	for range many {
		n := func() string { return fmt.Sprintf("%d.%03d ", d.Intn(60)-20, d.Intn(1000)) }
		s += []string{
			"(ab a) Tj ", "(b) ' ", "( ) Tj ", "[(a) " + n() + "(b ) " + n() + "] TJ ", n() + n() + "Td ", n() + n() + "TD ", "T* ", "1 .1 .2 1 " + n() + n() + "Tm ", n() + "Tw ", n() + "Tc ", "50 Tz ", "133.3 Tz ",
			n() + "TL ", n() + "Ts ", "/F " + n() + "Tf ", "/N 8 Tf ", "/O 9 Tf ", "1 2 re ", "ET BT ", "1.1 0 .3 .9 " + n() + n() + "cm ", "q ( a) Tj Q ", "q " + n() + n() + "Td 2 0 0 2 0 0 cm (b) ' Q ",
		}[d.Intn(22)]
	}
	return s
}

func TestMovedAlong(t *testing.T) { // W3, I1 to I3
	d := rand.New(rand.NewSource(3))
	for range 2000 {
		x, y := d.Intn(200000)-100000, d.Intn(200000)-100000
		l := told(t, "BT /F 10 Tf "+some(d, d.Intn(12)))
		g, err := paint.Page(l, fonts())
		if err != nil {
			t.Fatalf("Page(%v): %v", l, err)
		}
		for i := range g {
			g[i].At, g[i].End = api.Point{X: g[i].At.X + x, Y: g[i].At.Y + y}, api.Point{X: g[i].End.X + x, Y: g[i].End.Y + y}
			b := g[i].Box
			g[i].Box = api.Box{X0: b.X0 + x, Y0: b.Y0 + y, X1: b.X1 + x, Y1: b.Y1 + y}
		}
		moved, err := paint.Page(append([]api.Op{op("cm", num(1000), num(0), num(0), num(1000), num(x), num(y))}, l...), fonts())
		if err != nil || !slices.Equal(g, moved) {
			t.Errorf("Page(%v) moved by %d, %d: %s, %v, want %s", l, x, y, short(moved), err, short(g))
		}
	}
}

func TestTakenBack(t *testing.T) { // W3, I1
	d := rand.New(rand.NewSource(4))
	state := []string{"2 Tc ", "3 Tw ", "40 Tz ", "5 TL ", "6 Ts ", "/N 7 Tf ", "/F 3 Tf ", "1 2 3 4 5 6 cm ", "0 1 -1 0 0 0 cm ", "q 9 Tc Q ", "x "}
	for range 2000 {
		first, rest := "BT /F 10 Tf "+some(d, d.Intn(6)), some(d, d.Intn(6))
		between := ""
		for range d.Intn(6) {
			between += state[d.Intn(len(state))]
		}
		same(t, first+"q "+between+"Q "+rest, first+rest)
	}
}

func TestParts(t *testing.T) { // W3, I2, I3
	d := rand.New(rand.NewSource(5))
	for range 2000 {
		first, s, step := "BT /F 10 Tf "+some(d, d.Intn(6)), "", 1
		for range 1 + d.Intn(8) {
			s += string("ab cd\xc8"[d.Intn(6)])
		}
		if d.Intn(3) == 0 {
			first, s, step = first+"/W 7 Tf ", s+s, 2
		}
		whole := append(told(t, first), op("Tj", str(s)))
		parts, row := told(t, first), list()
		for len(s) > 0 {
			k := step * d.Intn(len(s)/step+1)
			parts = append(parts, op("Tj", str(s[:k])))
			row.L = append(row.L, str(s[:k]))
			s = s[k:]
		}
		g, err := paint.Page(whole, fonts())
		g2, err2 := paint.Page(parts, fonts())
		g3, err3 := paint.Page(append(told(t, first), op("TJ", row)), fonts())
		if err != nil || err2 != nil || err3 != nil || !slices.Equal(g, g2) || !slices.Equal(g, g3) {
			t.Errorf("%v: %s, %v; in parts %s, %v; as a list %s, %v", whole, short(g), err, short(g2), err2, short(g3), err3)
		}
	}
}

// point where a matrix of floats takes x, y.
func point(m [6]float64, x, y float64) [2]float64 {
	return [2]float64{m[0]*x + m[2]*y + m[4], m[1]*x + m[3]*y + m[5]}
}

// product of two matrices of floats: first the one, then the other one.
func product(m, n [6]float64) [6]float64 {
	return [6]float64{m[0]*n[0] + m[1]*n[2], m[0]*n[1] + m[1]*n[3], m[2]*n[0] + m[3]*n[2], m[2]*n[1] + m[3]*n[3], m[4]*n[0] + m[5]*n[2] + n[4], m[4]*n[1] + m[5]*n[3] + n[5]}
}

func TestNearFloats(t *testing.T) { // I1 to I3, W6
	d := rand.New(rand.NewSource(6))
	f := func() (float64, api.Value) { n := d.Intn(40000) - 10000; return float64(n) / api.Whole, num(n) }
	matrix := func() ([6]float64, []api.Value) {
		l := []int{d.Intn(2000), d.Intn(1000), d.Intn(1000) - 500, d.Intn(2000), d.Intn(90000), d.Intn(90000)}
		var m [6]float64
		var args []api.Value
		for i, n := range l {
			m[i] = float64(n) / api.Whole
			args = append(args, num(n))
		}
		return m, args
	}
	for range 2000 {
		page, cm := matrix()
		text, tm := matrix()
		size, tf := f()
		char, tc := f()
		word, tw := f()
		rise, ts := f()
		thousandths := d.Intn(400) - 100
		scale, percent := float64(thousandths)/api.Whole, num(thousandths*100)
		l := []api.Op{op("cm", cm...), op("Tz", percent), op("Tw", tw), op("Ts", ts), op("Tc", tc), op("BT"), op("Tm", tm...), op("Tf", name("F"), tf), op("Tj", str("a b"))}
		g, err := paint.Page(l, fonts())
		if err != nil || len(g) != 3 {
			t.Fatalf("Page(%v): %s, %v", l, short(g), err)
		}
		x := 0.0
		for i, w := range []float64{.5, .3, .25} {
			m := product(product([6]float64{size * scale, 0, 0, size, x, rise}, text), page)
			at, end := point(m, 0, 0), point(m, w, 0)
			for k, p := range [][2]float64{at, end} {
				q := []api.Point{g[i].At, g[i].End}[k]
				if math.Abs(p[0]-float64(q.X)/api.Whole) > .1 || math.Abs(p[1]-float64(q.Y)/api.Whole) > .1 {
					t.Errorf("Page(%v): glyph %d: %v, want near %v", l, i, q, p)
				}
			}
			x += (w*size + char) * scale
			if i == 1 {
				x += word * scale
			}
		}
	}
}

func TestAnyOps(t *testing.T) { // Z1, Z3
	d := rand.New(rand.NewSource(7))
	names := strings.Fields("q Q cm BT ET Tf Tc Tw Tz TL Ts Td TD Tm T* Tj ' TJ x")
	edge := []int{0, 1, -1, api.MaxFix, -api.MaxFix, api.MaxFix + 1, math.MaxInt, math.MinInt, math.MinInt + 1, 1000, -1000}
	fs := fonts()
	fs["E"] = api.Font{Widths: map[int]int{'a': math.MaxInt, 'b': math.MinInt, -1: 5}, Miss: math.MinInt, Names: map[int]string{-4: "x"}, Codes: []api.Span{{From: 9, To: 3}, {From: math.MinInt, To: math.MaxInt, Text: "\xff"}}}
	number := func() api.Value { return num(edge[d.Intn(len(edge))]) }
	value := func() api.Value {
		s := []string{"", "a", "ab", " ", "abc\xff\x00", "F", "E", "W"}[d.Intn(8)]
		return []api.Value{number(), str(s), name(s), list(number(), str(s)), list(str(s), list(), name(s)), {Kind: d.Intn(12) - 2, N: d.Int(), S: s}, {Kind: api.List, S: s, N: -1}}[d.Intn(7)]
	}
	for range 30000 {
		l := []api.Op{op("BT"), op("Tf", name([]string{"F", "W", "E", "N", "O"}[d.Intn(5)]), number())}
		for range d.Intn(9) {
			o := op(names[d.Intn(len(names))])
			for range []int{0, 1, 1, 2, 6, d.Intn(9)}[d.Intn(6)] {
				o.Args = append(o.Args, value())
			}
			switch {
			case d.Intn(2) > 0:
			case o.Name == "Tf":
				o.Args = []api.Value{name("E"), number()}
			case o.Name == "Tj" || o.Name == "'":
				o.Args = []api.Value{str("ab \xc8")}
			case o.Name == "cm" || o.Name == "Tm":
				o.Args = []api.Value{number(), number(), number(), number(), number(), number()}
			default:
				o.Args = []api.Value{number(), number()}[:min(2, 1+d.Intn(2))]
			}
			l = append(l, o)
		}
		g, err := paint.Page(l, fs)
		if _, is := err.(api.Errno); err != nil && (!is || len(g) != 0) {
			t.Errorf("Page(%v): %s, %T", l, short(g), err)
		}
		g2, err2 := paint.Page(l, fs)
		if err != err2 || !slices.Equal(g, g2) {
			t.Errorf("Page(%v): %s, %v, then %s, %v", l, short(g), err, short(g2), err2)
		}
	}
}

func TestUnchanged(t *testing.T) { // Z2
	back := []api.Value{list(str("a"), num(1000)), str("behind")}
	hidden := []api.Op{op("BT"), op("Tf", name("F"), num(1000)), op("TJ", back[:1]...), op("Q")}
	fs := fonts()
	keys := slices.Sorted(maps.Keys(fs))
	l := hidden[:3]
	var kept []api.Glyph
	for range 2 {
		g, err := paint.Page(l, fs)
		if err != nil || len(g) != 1 || g[0].Text != "a" || kept != nil && !slices.Equal(g, kept) {
			t.Errorf("Page(%v): %s, %v", l, short(g), err)
		}
		if !reflect.DeepEqual(fs, fonts()) || !slices.Equal(keys, slices.Sorted(maps.Keys(fs))) {
			t.Errorf("Page changed the fonts: %v", fs)
		}
		if hidden[3].Name != "Q" || !value.Alike(list(back...), list(list(str("a"), num(1000)), str("behind"))) {
			t.Errorf("Page changed what it was given: %v, %v", hidden, back)
		}
		kept = slices.Clone(g)
		g = g[:cap(g)]
		for i := range g {
			g[i] = api.Glyph{Text: "spoilt"}
		}
	}
}
