package layout_test

import (
	"fmt"
	"math"
	"math/rand"
	"reflect"
	"slices"
	"strings"
	"testing"
	"unicode/utf8"

	"foliowright/api"
	"foliowright/layout"
	"foliowright/pages"
	"foliowright/press"
)

// g: a glyph from x to end, on y.
func g(text string, x, end, y, size int) api.Glyph {
	return api.Glyph{Text: text, At: api.Point{X: x, Y: y}, End: api.Point{X: end, Y: y}, Size: size}
}

// size: as great as glyphs are where that isn't what is asked.
const size = 10000

// at: a glyph that is nothing wide.
func at(text string, x, y int) api.Glyph { return g(text, x, x, y, size) }

// shown: signs, '/' for an end of a line, '_' for a blank that stands between.
func shown(t layout.Text) string {
	var b strings.Builder
	for i, r := range t.Signs {
		switch {
		case t.Of[i] < 0 && r == ' ':
			r = '_'
		case t.Of[i] < 0 && r == '\n':
			r = '/'
		}
		b.WriteRune(r)
	}
	return b.String()
}

// laid: glyphs are these words, and this text.
func laid(t *testing.T, what string, l []api.Glyph, words, text string) {
	t.Helper()
	if got := fmt.Sprint(layout.Words(l)); got != words {
		t.Errorf("%s: Words(%v): %s, want %s", what, l, got, words)
	}
	of := layout.Of(l)
	if got := shown(of); got != text || len(of.Of) != len(of.Signs) || len(of.Line) != len(of.Signs) {
		t.Errorf("%s: Of(%v): %q, %d, %d, want %q", what, l, got, of.Of, of.Line, text)
	}
}

func TestLines(t *testing.T) { // K1
	for _, c := range []struct {
		what        string
		l           []api.Glyph
		words, text string
	}{
		{"no glyphs", nil, "[]", ""},
		{"a list of none", []api.Glyph{}, "[]", ""},
		{"one", []api.Glyph{at("a", 7, 7)}, "[[[0]]]", "a"},
		{"the greatest Y first", []api.Glyph{at("a", 0, -20000), at("b", 0, 20000), at("c", 0, 0)}, "[[[1]] [[2]] [[0]]]", "b/c/a"},
		{"the least X first", []api.Glyph{at("a", 2, 0), at("b", 3, 0), at("c", -1, 0)}, "[[[2 0 1]]]", "cab"},
		{"by X, not by Y, in a line", []api.Glyph{at("a", 2, 0), at("b", 1, -1), at("c", 3, 1)}, "[[[1 0 2]]]", "bac"},
		{"the same X: the greatest Y first", []api.Glyph{at("a", 0, 0), at("b", 0, 2), at("c", 0, 1)}, "[[[1 2 0]]]", "bca"},
		{"the same place: in their order", []api.Glyph{at("b", 0, 0), at("a", 0, 0), at("c", 0, 0)}, "[[[0 1 2]]]", "bac"},
		{"by where they begin, not by where they end", []api.Glyph{g("a", 1, 2, 0, size), g("b", 0, 9, 0, size)}, "[[[1 0]]]", "ba"},
		{"not by Y of End", []api.Glyph{
			{Text: "a", Size: size, End: api.Point{Y: 90000}},
			{Text: "b", Size: size, At: api.Point{Y: 20000}},
		}, "[[[1]] [[0]]]", "b/a"},
	} {
		laid(t, c.what, c.l, c.words, c.text)
	}
}

func TestManyInOrder(t *testing.T) { // K1: of the same in their order, also if there are many
	var l []api.Glyph
	var want []int
	for i := range 200 {
		l = append(l, at("a", 0, 0))
		want = append(want, i)
	}
	laid(t, "the same place", l, fmt.Sprint([][][]int{{want}}), strings.Repeat("a", 200))
	for i := range l {
		l[i].Size = -1
	}
	var each [][][]int
	for i := range l {
		each = append(each, [][]int{{i}})
	}
	laid(t, "the same place, each a line", l, fmt.Sprint(each), strings.Repeat("a/", 199)+"a")
}

func TestLevel(t *testing.T) { // K1
	const together, apart = "[[[0 1]]]", "[[[0]] [[1]]]"
	for _, c := range []struct {
		size, less int
		want       string
	}{
		{10000, 0, together},
		{10000, 4999, together},
		{10000, 5000, together}, // twice it is just the Size
		{10000, 5001, apart},
		{10001, 5000, together},
		{10001, 5001, apart}, // one more than the Size
		{9999, 4999, together},
		{9999, 5000, apart},
		{1, 0, together},
		{1, 1, apart},
		{0, 0, together},
		{0, 1, apart},
		{-1, 0, apart},
		{-10000, 0, apart},
		{-10000, 5000, apart},
		{api.MaxFix, api.MaxFix / 2, together},
		{api.MaxFix, api.MaxFix/2 + 1, apart},
		{api.MaxFix, 2 * api.MaxFix, apart},
		{-api.MaxFix, 2 * api.MaxFix, apart},
		{-api.MaxFix, 0, apart},
	} {
		for _, y := range []int{api.MaxFix, 0, -12345} {
			if y-c.less < -api.MaxFix {
				continue
			}
			for _, other := range []int{c.size, 0, -size, size, api.MaxFix} {
				l := []api.Glyph{g("a", 0, 0, y, c.size), g("b", 0, 0, y-c.less, other)}
				if got := fmt.Sprint(layout.Words(l)); got != c.want {
					t.Errorf("Words(%v): %s, want %s", l, got, c.want)
				}
			}
		}
	}
}

func TestFirstOfLine(t *testing.T) { // K1: what counts is the one that began the last line
	for _, c := range []struct {
		what        string
		l           []api.Glyph
		words, text string
	}{
		{"not the one ahead", []api.Glyph{at("a", 0, 0), at("b", 0, -4000), at("c", 0, -8000)}, "[[[0 1]] [[2]]]", "ab/c"},
		{"nor the one ahead's Size", []api.Glyph{g("a", 0, 0, 0, 1000), g("b", 0, 0, -500, 90000), g("c", 0, 0, -600, 1)}, "[[[0 1]] [[2]]]", "ab/c"},
		{"not the first one by X", []api.Glyph{g("a", 9, 9, 0, size), g("b", 0, 0, -4000, 0), g("c", 5, 5, -5000, 0)}, "[[[1] [2] [0]]]", "b_c_a"},
		{"of the same Y the first in their order", []api.Glyph{g("a", 9, 9, 0, size), g("b", 0, 0, 0, 0), g("c", 5, 5, -5000, 0)}, "[[[1] [2] [0]]]", "b_c_a"},
		{"the same, the other way round", []api.Glyph{g("b", 0, 0, 0, 0), g("a", 9, 9, 0, size), g("c", 5, 5, -5000, 0)}, "[[[0] [1]] [[2]]]", "b_a/c"},
		{"each line has its own", []api.Glyph{g("a", 0, 0, 0, 20000), g("b", 0, 0, -10001, 2), g("c", 0, 0, -10002, 90000), g("d", 0, 0, -10003, 8), g("e", 0, 0, -10007, 0), g("f", 0, 0, -10008, 0)}, "[[[0]] [[1 2]] [[3 4]] [[5]]]", "a/bc/de/f"},
		{"Size below 0, first", []api.Glyph{g("b", 2, 2, 0, -1), g("a", 1, 1, 0, -1), g("c", 0, 0, 0, size)}, "[[[0]] [[1]] [[2]]]", "b/a/c"},
		{"Size below 0, behind another one", []api.Glyph{g("c", 0, 0, 0, size), g("b", 2, 2, 0, -1), g("a", 1, 1, 0, -1)}, "[[[0 2] [1]]]", "ca_b"},
		{"Size 0, all on one Y", []api.Glyph{g("b", 0, 1, 7, 0), g("a", -1, 0, 7, 0)}, "[[[1 0]]]", "ab"},
	} {
		laid(t, c.what, c.l, c.words, c.text)
	}
}

func TestWithoutText(t *testing.T) { // K1
	none := func(x, end, y int) api.Glyph { return g("", x, end, y, size) }
	for _, c := range []struct {
		what        string
		l           []api.Glyph
		words, text string
	}{
		{"alone", []api.Glyph{none(0, 1, 0)}, "[]", ""},
		{"several", []api.Glyph{none(0, 1, 0), none(1, 2, 0), none(0, 1, -90000)}, "[]", ""},
		{"between", []api.Glyph{at("a", 0, 0), none(0, 0, 0), at("b", 0, 0)}, "[[[0 2]]]", "ab"},
		{"it fills no room", []api.Glyph{at("a", 0, 0), none(0, 9000, 0), at("b", 9000, 0)}, "[[[0] [2]]]", "a_b"},
		{"it makes no room", []api.Glyph{at("a", 0, 0), g("", 0, -9000, 0, 0), at("b", 0, 0)}, "[[[0 2]]]", "ab"},
		{"it begins no line", []api.Glyph{none(0, 0, 4000), at("a", 0, 0), at("b", 0, -5000)}, "[[[1 2]]]", "ab"},
		{"it is no line between", []api.Glyph{at("a", 0, 0), none(0, 0, -20000), at("b", 0, -40000)}, "[[[0]] [[2]]]", "a/b"},
		{"a blank is a text", []api.Glyph{at("a", 0, 0), at(" ", 0, 0), at("b", 0, 0)}, "[[[0 1 2]]]", "a b"},
	} {
		laid(t, c.what, c.l, c.words, c.text)
	}
}

func TestRoom(t *testing.T) { // K2
	const together, apart = "ab", "a_b"
	for _, c := range []struct {
		size, room int
		want       string
	}{
		{10000, 0, together},
		{10000, 2500, together}, // four times it is just the Size
		{10000, 2501, apart},
		{10000, -2501, together},
		{10003, 2500, together},
		{10003, 2501, apart}, // one more than the Size
		{9999, 2499, together},
		{9999, 2500, apart},
		{3, 0, together},
		{3, 1, apart},
		{0, -1, together},
		{0, 0, together},
		{0, 1, apart},
		{-10000, -2500, together},
		{-10000, -2499, apart},
		{-1, -1, together},
		{-1, 0, apart},
		{api.MaxFix, api.MaxFix / 4, together},
		{api.MaxFix, api.MaxFix/4 + 1, apart},
		{api.MaxFix, api.MaxFix, apart},
		{-api.MaxFix, -api.MaxFix / 4, together},
		{-api.MaxFix, -api.MaxFix/4 + 1, apart},
	} {
		for _, other := range []int{c.size, 0, -size, size, api.MaxFix} {
			// What begins the line is neither of them: it lets both in, whatever their Sizes, and stands far behind.
			l := []api.Glyph{
				g("a", -api.MaxFix, -c.room, 0, c.size),
				g("b", 0, 0, 0, other),
				g("z", api.MaxFix, api.MaxFix, 1, 2),
			}
			words, text := layout.Words(l), shown(layout.Of(l))
			if len(words) != 1 || slices.Contains(words[0][0], 1) != (c.want == together) || !strings.HasPrefix(text, c.want) {
				t.Errorf("%v: %d, %q, want %q", l, words, text, c.want)
			}
		}
	}
	far := []api.Glyph{g("a", -api.MaxFix, -api.MaxFix, 0, api.MaxFix), g("b", api.MaxFix, 0, 0, 0)}
	laid(t, "as far as places are", far, "[[[0] [1]]]", "a_b")
	far = []api.Glyph{g("a", -api.MaxFix, api.MaxFix, 0, 0), g("b", -api.MaxFix, 0, 0, 0)}
	laid(t, "as far back as places are", far, "[[[0 1]]]", "ab")
}

func TestRoomBetween(t *testing.T) { // K2: one behind the other as they are told
	for _, c := range []struct {
		what        string
		l           []api.Glyph
		words, text string
	}{
		{"told in another order", []api.Glyph{g("c", 20000, 25000, 0, size), g("a", 0, 5000, 0, size), g("b", 5000, 10000, 0, size)}, "[[[1 2] [0]]]", "ab_c"},
		{"from where the one ahead ends, however far one ahead of it does", []api.Glyph{g("a", 0, 50000, 0, size), g("b", 1, 2, 0, size), g("c", 9000, 9000, 0, size)}, "[[[0 1] [2]]]", "ab_c"},
		{"ends ahead of where it begins", []api.Glyph{g("a", 9000, 0, 0, size), g("b", 9000, 9000, 0, size)}, "[[[0] [1]]]", "a_b"},
		{"none over an end of a line", []api.Glyph{g("a", 0, 1000, 0, size), g("b", 90000, 91000, -20000, size)}, "[[[0]] [[1]]]", "a/b"},
		{"each a word", []api.Glyph{at("a", 0, 0), at("b", 9000, 0), at("c", 18000, 0)}, "[[[0] [1] [2]]]", "a_b_c"},
		{"a blank beside room", []api.Glyph{at("a", 0, 0), at(" ", 9000, 0), at("b", 9000, 0)}, "[[[0] [1 2]]]", "a_ b"},
		{"several lines and words", []api.Glyph{
			g("d", 0, 5000, -12000, size), g("e", 5000, 10000, -12000, size), g("f", 14000, 20000, -12000, size),
			g("a", 0, 5000, 0, size), g("b", 8000, 9000, 100, size), g("c", 9000, 10000, -100, size),
		}, "[[[3] [4 5]] [[0 1] [2]]]", "a_bc/de_f"},
	} {
		laid(t, c.what, c.l, c.words, c.text)
	}
}

func TestText(t *testing.T) { // K2
	l := []api.Glyph{
		g("éa", 9000, 12000, -20000, size), // 0: signs of one byte and of more
		g("", 0, 90000, 5000, size),        // 1
		g("ffi", 0, 4000, 0, size),         // 2: several signs
		g("€", 8000, 9000, 1, 20000),       // 3
		g("\U0001F600b", 9000, 9000, -1, size),
		g(" ", 20000, 21000, 0, size),
		g("x\n", 0, 1000, -40000, -1),
		g("\u0301", 0, 1000, -40000, size),
	}
	const none = -1
	want := layout.Text{
		Signs: []rune("ffi €\U0001F600b  \néa\nx\n\n\u0301"),
		Of:    []int{2, 2, 2, none, 3, 4, 4, none, 5, none, 0, 0, none, 6, 6, none, 7},
		Line:  []int{0, 0, 0, 0, 0, 0, 0, 0, 0, 0, 1, 1, 1, 2, 2, 2, 3},
	}
	if got := layout.Of(l); !reflect.DeepEqual(got, want) {
		t.Errorf("Of(%v): %q, %d, %d, want %q, %d, %d", l, got.Signs, got.Of, got.Line, want.Signs, want.Of, want.Line)
	}
	if got := fmt.Sprint(layout.Words(l)); got != "[[[2] [3 4] [5]] [[0]] [[6]] [[7]]]" {
		t.Errorf("Words(%v): %s", l, got)
	}
	for _, l := range [][]api.Glyph{nil, {g("", 0, 0, 0, size)}} {
		if got := layout.Of(l); len(got.Signs)+len(got.Of)+len(got.Line)+len(layout.Words(l)) != 0 {
			t.Errorf("Of(%v): %v", l, got)
		}
	}
}

// drawn: glyphs that stand near each other, so that edges are met often.
func drawn(r *rand.Rand) []api.Glyph {
	texts := []string{"a", "b", "", " ", "é", "ffi", "\n", "€\U0001F600"}
	l := make([]api.Glyph, r.Intn(20))
	for i := range l {
		x := r.Intn(12)
		l[i] = g(texts[r.Intn(len(texts))], x, x+r.Intn(4), r.Intn(9), r.Intn(12)-2)
	}
	return l
}

// model of words, by the document's words: the next one is looked for each time.
func model(l []api.Glyph) [][][]int {
	var lines [][]int
	taken := make([]bool, len(l))
	for {
		next := -1
		for i := range l {
			if !taken[i] && l[i].Text != "" && (next < 0 || l[i].At.Y > l[next].At.Y) {
				next = i
			}
		}
		if next < 0 {
			break
		}
		taken[next] = true
		if n := len(lines); n > 0 && 2*(l[lines[n-1][0]].At.Y-l[next].At.Y) <= l[lines[n-1][0]].Size {
			lines[n-1] = append(lines[n-1], next)
		} else {
			lines = append(lines, []int{next})
		}
	}
	var all [][][]int
	for _, line := range lines {
		var told []int
		for _, i := range line {
			k := len(told)
			for k > 0 && l[told[k-1]].At.X > l[i].At.X {
				k--
			}
			told = slices.Insert(told, k, i)
		}
		words := [][]int{{told[0]}}
		for k := 1; k < len(told); k++ {
			if 4*(l[told[k]].At.X-l[told[k-1]].End.X) > l[told[k-1]].Size {
				words = append(words, nil)
			}
			words[len(words)-1] = append(words[len(words)-1], told[k])
		}
		all = append(all, words)
	}
	return all
}

func TestModel(t *testing.T) { // K1, K2
	r := rand.New(rand.NewSource(10))
	var many, lines, rooms int
	for range 20000 {
		l := drawn(r)
		want := model(l)
		var text []string
		for _, words := range want {
			var line []string
			for _, word := range words {
				s := ""
				for _, i := range word {
					s += l[i].Text
				}
				line = append(line, s)
			}
			text = append(text, strings.Join(line, " "))
			many, lines, rooms = many+len(words), lines+1, rooms+len(words)-1
		}
		if got := layout.Words(l); fmt.Sprint(got) != fmt.Sprint(want) {
			t.Fatalf("Words(%v): %v, want %v", l, got, want)
		}
		if got, want := string(layout.Of(l).Signs), strings.Join(text, "\n"); got != want {
			t.Fatalf("Of(%v): %q, want %q", l, got, want)
		}
	}
	if lines < 20000 || rooms < 20000 {
		t.Errorf("%d words in %d lines, %d rooms: too few", many, lines, rooms)
	}
}

func TestEachOnce(t *testing.T) { // W4
	r := rand.New(rand.NewSource(11))
	for range 5000 {
		l := drawn(r)
		of := layout.Of(l)
		var told []int // glyphs, as words have them
		lineOf := map[int]int{}
		for n, words := range layout.Words(l) {
			if len(words) == 0 {
				t.Fatalf("Words(%v): a line without words", l)
			}
			for _, word := range words {
				if len(word) == 0 {
					t.Fatalf("Words(%v): a word without glyphs", l)
				}
				told = append(told, word...)
				for _, i := range word {
					lineOf[i] = n
				}
			}
		}
		signs := ""
		var order []int // glyphs, as the text has them
		for i, r := range of.Signs {
			n := of.Of[i]
			if n < 0 {
				if n != -1 || r != ' ' && r != '\n' {
					t.Fatalf("Of(%v): %q is of %d", l, r, n)
				}
				continue
			}
			signs += string(r)
			if of.Line[i] != lineOf[n] {
				t.Fatalf("Of(%v): glyph %d in line %d, and %d", l, n, of.Line[i], lineOf[n])
			}
			if len(order) == 0 || order[len(order)-1] != n {
				order = append(order, n)
			}
		}
		if !slices.Equal(order, told) || !slices.IsSorted(of.Line) {
			t.Fatalf("Of(%v): glyphs %d in lines %d, but words have %d", l, order, of.Line, told)
		}
		want := ""
		for _, i := range told {
			want += l[i].Text
		}
		var all []int
		for i, x := range l {
			if x.Text != "" {
				all = append(all, i)
			}
		}
		if slices.Sort(told); signs != want || !slices.Equal(told, all) {
			t.Fatalf("Of(%v): %q, of glyphs %d, want %q of %d", l, signs, told, want, all)
		}
	}
}

func TestWritten(t *testing.T) { // W1, W4
	spec := api.Spec{
		Styles: []api.Style{
			{Signs: "ab ", Widths: []int{500, 500, 500}},
			{Wide: true, Signs: "aé", Widths: []int{600, 600}},
		},
		Pages: [][]api.Run{
			{
				{Font: 0, Size: 10000, At: api.Point{X: 50000, Y: 700000}, Text: "ab a"},
				{Font: 1, Size: 12000, At: api.Point{X: 50000, Y: 680500}, Text: "éa"},
				{Font: 0, Size: 10000, At: api.Point{X: 90000, Y: 700250}, Text: "ba"},
			},
			nil,
			{{Font: 0, Size: -10000, At: api.Point{Y: 1000}, Text: "ab"}, {Font: 1, Size: 10000, At: api.Point{Y: 1000}, Text: "aé"}},
		},
	}
	want := []string{"ab a_ba/éa", "", "a/b/aé"}
	for _, names := range [][]string{nil, {"ASCIIHexDecode"}, {"ASCII85Decode", "RunLengthDecode"}} {
		spec.Filter = names
		s, err := press.Build(spec)
		if err != nil {
			t.Fatal(err)
		}
		l, err := pages.Read(s)
		if err != nil || len(l) != len(want) {
			t.Fatalf("Read: %d pages, %v", len(l), err)
		}
		for i, p := range l {
			if got := shown(layout.Of(p.Glyphs)); got != want[i] {
				t.Errorf("page %d by %q: %q, want %q", i, names, got, want[i])
			}
		}
	}
}

func TestEnds(t *testing.T) { // Z1: at all glyphs
	numbers := []int{math.MinInt, math.MinInt + 1, -api.MaxFix, -1, 0, 1, api.MaxFix, math.MaxInt - 1, math.MaxInt}
	texts := []string{"", "a", "\xff", "a\xc3", "\x00", "\ufffd", "\xed\xa0\x80"}
	r := rand.New(rand.NewSource(12))
	n := func() int { return numbers[r.Intn(len(numbers))] }
	for range 5000 {
		l := make([]api.Glyph, r.Intn(8))
		signs := 0
		for i := range l {
			l[i] = g(texts[r.Intn(len(texts))], n(), n(), n(), n())
			signs += utf8.RuneCountInString(l[i].Text)
		}
		of := layout.Of(l)
		for _, i := range of.Of {
			if i >= 0 {
				signs--
			}
		}
		if signs != 0 {
			t.Fatalf("Of(%v): %q", l, of.Signs)
		}
		layout.Words(l)
	}
	var l []api.Glyph // more than a page has
	for i := range 5 * api.MaxGlyphs {
		l = append(l, at("a", -i%100, -20000*(i%70)))
	}
	if got := len(layout.Words(l)); got != 70 {
		t.Errorf("%d lines, want 70", got)
	}
}

// spoil a list, also what stands behind it in memory.
func spoil[T any](l []T, by T) {
	l = l[:cap(l)]
	for i := range l {
		l[i] = by
	}
}

func TestFresh(t *testing.T) { // Z2
	all := []api.Glyph{at("b", 9000, 0), at("", 0, 0), at("a", 0, 0), at("c", 0, -20000), at("d", 1, -20000), at("e", 0, 0)}
	kept := slices.Clone(all)
	l := all[:5]
	words, of := fmt.Sprint(layout.Words(l)), layout.Of(l)
	if words != "[[[2] [0]] [[3 4]]]" || shown(of) != "a_b/cd" {
		t.Errorf("Words: %s; Of: %s", words, shown(of))
	}
	if !slices.Equal(all, kept) {
		t.Errorf("glyphs were written into: %v, they were %v", all, kept)
	}
	w := layout.Words(l)
	spoil(w[0][0], -7)
	if got := fmt.Sprint(w[0][1:], w[1:]); got != "[[0]] [[[3 4]]]" {
		t.Errorf("two words share a list: %s", got)
	}
	spoil(w[0], nil)
	if got := fmt.Sprint(w[1:]); got != "[[[3 4]]]" {
		t.Errorf("two lines share a list: %s", got)
	}
	spoil(of.Of, -7)
	if got := fmt.Sprint(of.Line); got != "[0 0 0 0 1 1]" || string(of.Signs) != "a b\ncd" {
		t.Errorf("two lists are shared: %s, %q", got, of.Signs)
	}
	spoil(of.Signs, 'x')
	spoil(of.Line, -7)
	laid(t, "again", l, "[[[2] [0]] [[3 4]]]", "a_b/cd")
}
