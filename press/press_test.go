package press_test

import (
	"fmt"
	"math"
	"math/rand"
	"reflect"
	"slices"
	"strings"
	"testing"

	"foliowright/api"
	"foliowright/cmap"
	"foliowright/file"
	"foliowright/filter"
	"foliowright/fix"
	"foliowright/press"
	"foliowright/value"
)

const (
	hexName  = "ASCIIHexDecode"
	fiveName = "ASCII85Decode"
	runsName = "RunLengthDecode"
)

// signs: so many that differ, from the sign ! on.
func signs(many int) string {
	var b strings.Builder
	for i := range many {
		b.WriteRune(rune('!' + i))
	}
	return b.String()
}

// style of signs, all of which are as wide.
func style(wide bool, s string, width int) api.Style {
	x := api.Style{Wide: wide, Signs: s}
	for range s {
		x.Widths = append(x.Widths, width)
	}
	return x
}

// run of text in a style, of the size 10, at 0, 0.
func run(font int, text string) api.Run { return api.Run{Font: font, Size: 10000, Text: text} }

// spec of one page with these runs, in a narrow and in a wide style.
func spec(runs ...api.Run) api.Spec {
	return api.Spec{
		Styles: []api.Style{style(false, "ab ", 500), style(true, "aé", 600)},
		Pages:  [][]api.Run{runs},
	}
}

// with: a spec in which something is otherwise.
func with(s api.Spec, change func(s *api.Spec)) api.Spec {
	change(&s)
	return s
}

// built: a file of a spec.
func built(t *testing.T, s api.Spec) string {
	t.Helper()
	text, err := press.Build(s)
	if err != nil {
		t.Fatalf("Build(%.300s): %v", fmt.Sprint(s), err)
	}
	return text
}

// read: the file of a spec, read.
func read(t *testing.T, s api.Spec) *file.File {
	t.Helper()
	f, err := file.Read(built(t, s))
	if err != nil {
		t.Fatalf("Read of %.300s: %v", fmt.Sprint(s), err)
	}
	return f
}

// object of a file: its value as a text.
func object(t *testing.T, f *file.File, n int) string {
	t.Helper()
	o, err := f.Get(n)
	if err != nil {
		t.Fatalf("Get(%d): %v", n, err)
	}
	s, err := value.Text(o.V)
	if err != nil {
		t.Fatalf("Text(%v): %v", o.V, err)
	}
	return s
}

// data of a stream of a file, taken apart.
func data(t *testing.T, f *file.File, n int) string {
	t.Helper()
	s, err := f.Data(n)
	if err != nil {
		t.Fatalf("Data(%d): %v", n, err)
	}
	return s
}

// passes: a spec may be.
func passes(t *testing.T, s api.Spec) {
	t.Helper()
	if err := press.Check(s); err != nil {
		t.Errorf("Check(%.300s): %v", fmt.Sprint(s), err)
	}
	for _, p := range s.Pages {
		for _, x := range p {
			if l, err := press.Glyphs(s, x); err != nil || len(l) != len([]rune(x.Text)) {
				t.Errorf("Glyphs(%.300s, %.100s): %d glyphs, %v", fmt.Sprint(s), fmt.Sprint(x), len(l), err)
			}
		}
	}
}

// refuses: a spec tells this error, and nothing besides, whatever the run that Glyphs is asked for.
func refuses(t *testing.T, s api.Spec, want error) {
	t.Helper()
	if err := press.Check(s); err != want {
		t.Errorf("Check(%.300s): %v, want %v", fmt.Sprint(s), err, want)
	}
	if text, err := press.Build(s); err != want || text != "" {
		t.Errorf("Build(%.300s): %.100q, %v, want %v alone", fmt.Sprint(s), text, err, want)
	}
	for _, x := range []api.Run{{}, run(0, "a"), {Font: -1, Text: "\xff"}} {
		if l, err := press.Glyphs(s, x); err != want || len(l) != 0 {
			t.Errorf("Glyphs(%.300s, %v): %v, %v, want %v alone", fmt.Sprint(s), x, l, err, want)
		}
	}
}

// runMay: a run may stand on a page, and be asked for; runMayNot: it tells this error, wherever it is.
func runMay(t *testing.T, s api.Spec, x api.Run) {
	t.Helper()
	s.Pages = [][]api.Run{{x}}
	passes(t, s)
}

func runMayNot(t *testing.T, s api.Spec, x api.Run, want error) {
	t.Helper()
	s.Pages = nil
	if l, err := press.Glyphs(s, x); err != want || len(l) != 0 {
		t.Errorf("Glyphs(%.300s, %.100s): %v, %v, want %v alone", fmt.Sprint(s), fmt.Sprint(x), l, err, want)
	}
	for _, p := range [][][]api.Run{{{x}}, {{}, {{}, x}}, {{x, {Font: 9}}, {{Font: 9}}}} {
		s.Pages = p
		refuses(t, s, want)
	}
}

func TestFew(t *testing.T) { // M1
	for n := range 4 + 1 {
		passes(t, api.Spec{Styles: make([]api.Style, n)})
	}
	for n := range api.MaxPages + 1 {
		passes(t, api.Spec{Pages: make([][]api.Run, n)})
	}
	for n := range 3 + 1 {
		passes(t, api.Spec{Filter: []string{hexName, hexName, runsName}[:n]})
	}
	for n := range 30 + 1 {
		passes(t, api.Spec{Styles: make([]api.Style, 1), Pages: [][]api.Run{make([]api.Run, n), make([]api.Run, 30)}})
	}
	refuses(t, api.Spec{Styles: make([]api.Style, 5)}, api.ErrMany)
	refuses(t, api.Spec{Pages: make([][]api.Run, api.MaxPages+1)}, api.ErrMany)
	refuses(t, api.Spec{Filter: []string{hexName, hexName, hexName, hexName}}, api.ErrMany)
	refuses(t, api.Spec{Styles: make([]api.Style, 1), Pages: [][]api.Run{make([]api.Run, 31)}}, api.ErrMany)
	refuses(t, api.Spec{Styles: make([]api.Style, 1), Pages: [][]api.Run{{}, make([]api.Run, 31)}}, api.ErrMany)
	refuses(t, api.Spec{Styles: make([]api.Style, 50), Pages: make([][]api.Run, 50), Filter: make([]string, 50)}, api.ErrMany)
}

func TestStyles(t *testing.T) { // M1
	good := style(false, "x", 1)
	one := func(x api.Style) []api.Spec {
		return []api.Spec{{Styles: []api.Style{x}}, {Styles: []api.Style{good, x}}, {Styles: []api.Style{good, good, good, x}}}
	}
	may := func(x api.Style) {
		t.Helper()
		for _, s := range one(x) {
			passes(t, s)
		}
	}
	mayNot := func(x api.Style, want error) {
		t.Helper()
		for _, s := range one(x) {
			refuses(t, s, want)
		}
	}
	for _, wide := range []bool{false, true} {
		for _, n := range []int{0, 1, 2, 199, 200} {
			may(style(wide, signs(n), 500))
			mayNot(api.Style{Wide: wide, Signs: signs(n), Widths: make([]int, n+1)}, api.ErrMany)
			mayNot(api.Style{Wide: wide, Signs: signs(n + 1), Widths: make([]int, n)}, api.ErrMany)
		}
		mayNot(style(wide, signs(201), 500), api.ErrMany)
		mayNot(style(wide, signs(3000), 500), api.ErrMany)
		mayNot(api.Style{Wide: wide, Signs: "é", Widths: []int{1, 1}}, api.ErrMany) // its bytes don't count
		may(api.Style{Wide: wide, Signs: "é", Widths: []int{1}})
		may(style(wide, "a€😀\x00\n�\U0010ffff", 0))
		mayNot(style(wide, "a\xff", 0), api.ErrShape)
		mayNot(style(wide, "\xc3", 0), api.ErrShape)
		mayNot(style(wide, "\xed\xa0\x80", 0), api.ErrShape)
		mayNot(style(wide, "aa", 0), api.ErrShape)
		mayNot(style(wide, "abcéa", 0), api.ErrShape)
		mayNot(style(wide, "abéé", 0), api.ErrShape)
		mayNot(style(wide, signs(199)+"!", 0), api.ErrShape)
		may(style(wide, "aAáà", 0))
		for _, n := range []int{0, 1, 4999, 5000} {
			may(style(wide, "a", n))
			may(api.Style{Wide: wide, Signs: "abc", Widths: []int{7, n, n}})
		}
		for _, n := range []int{-1, 5001, math.MinInt, math.MaxInt} {
			mayNot(style(wide, "a", n), api.ErrBound)
			mayNot(api.Style{Wide: wide, Signs: "abc", Widths: []int{0, 5000, n}}, api.ErrBound)
			mayNot(api.Style{Wide: wide, Signs: "abc", Widths: []int{n, 5000, 0}}, api.ErrBound)
		}
	}
}

func TestFilters(t *testing.T) { // M1, D1
	for _, n := range []string{hexName, fiveName, runsName} {
		passes(t, with(spec(), func(s *api.Spec) { s.Filter = []string{n} }))
		passes(t, with(spec(), func(s *api.Spec) { s.Filter = []string{n, runsName, n} }))
	}
	for _, n := range []string{"", "x", "FlateDecode", "asciihexdecode", "ASCIIHexDecode ", "/ASCIIHexDecode", "\xff"} {
		refuses(t, with(spec(), func(s *api.Spec) { s.Filter = []string{n} }), api.ErrFilter)
		refuses(t, with(spec(), func(s *api.Spec) { s.Filter = []string{hexName, runsName, n} }), api.ErrFilter)
		refuses(t, api.Spec{Filter: []string{n, hexName}}, api.ErrFilter)
	}
}

func TestRuns(t *testing.T) { // M1, M3
	s := spec()
	for _, x := range []api.Run{{}, run(0, ""), run(0, "a"), run(0, "ab ba"), run(1, "a"), run(1, "éaé"), {Font: 1}} {
		runMay(t, s, x)
	}
	for _, n := range []int{-1, 2, 3, math.MaxInt, math.MinInt} {
		runMayNot(t, s, run(n, ""), api.ErrNone)
	}
	for _, text := range []string{"c", "abc", "é", "A", "ab\x00"} {
		runMayNot(t, s, run(0, text), api.ErrNone)
	}
	for _, text := range []string{"b", "aéb", " ", "e", "é́"} {
		runMayNot(t, s, run(1, text), api.ErrNone)
	}
	for _, text := range []string{"\xff", "ab\xff", "a\xc3", "\xc3\xa9\xa9", "\xed\xa0\x80"} {
		runMayNot(t, s, run(0, text), api.ErrShape)
		runMayNot(t, s, run(1, text), api.ErrShape)
	}
	for _, n := range []int{0, 1, -1, 1000000, -1000000, 999999} {
		runMay(t, s, api.Run{Size: n, At: api.Point{X: 5, Y: 6}, Text: "ab"})
		runMay(t, s, api.Run{Size: 7, At: api.Point{X: n, Y: 6}, Text: "ab"})
		runMay(t, s, api.Run{Size: 7, At: api.Point{X: 5, Y: n}, Text: "ab"})
		runMay(t, s, api.Run{Font: 1, Size: n, At: api.Point{X: n, Y: n}, Text: "aé"})
	}
	for _, n := range []int{1000001, -1000001, api.MaxFix, math.MaxInt, math.MinInt} {
		runMayNot(t, s, api.Run{Size: n, Text: "ab"}, api.ErrBound)
		runMayNot(t, s, api.Run{At: api.Point{X: n}, Text: "ab"}, api.ErrBound)
		runMayNot(t, s, api.Run{At: api.Point{Y: n}, Text: "ab"}, api.ErrBound)
	}
	runMayNot(t, api.Spec{}, api.Run{}, api.ErrNone) // there is no style at all
}

func TestLongRuns(t *testing.T) { // M1: coded bytes count, neither those of the text nor its signs
	s := with(spec(), func(s *api.Spec) { s.Styles[0] = style(false, "aé€", 1) })
	for _, sign := range []string{"a", "é", "€"} {
		runMay(t, s, run(0, strings.Repeat(sign, 199)))
		runMay(t, s, run(0, strings.Repeat(sign, 200)))
		runMayNot(t, s, run(0, strings.Repeat(sign, 201)), api.ErrMany)
		runMayNot(t, s, run(0, strings.Repeat(sign, 5000)), api.ErrMany)
	}
	for _, sign := range []string{"a", "é"} {
		runMay(t, s, run(1, strings.Repeat(sign, 99)))
		runMay(t, s, run(1, strings.Repeat(sign, 100)))
		runMayNot(t, s, run(1, strings.Repeat(sign, 101)), api.ErrMany)
		runMayNot(t, s, run(1, strings.Repeat(sign, 200)), api.ErrMany)
	}
}

// worse: what may be wrong with a spec, in the order in which it is told; each leaves all that is told ahead of it as it is.
func worse() []func(s *api.Spec) error {
	many := func(n int) []int { return make([]int, n) }
	return []func(s *api.Spec) error{
		func(s *api.Spec) error { s.Filter = append(s.Filter, make([]string, 4)...); return api.ErrMany },
		func(s *api.Spec) error { s.Styles[0].Widths = many(7); return api.ErrMany },
		func(s *api.Spec) error {
			s.Styles[0].Signs, s.Styles[0].Widths = "\xff\xff", many(2)
			return api.ErrShape
		},
		func(s *api.Spec) error { s.Styles[0].Widths[0] = 5001; return api.ErrBound },
		func(s *api.Spec) error { s.Styles[0].Signs = "abb"; return api.ErrShape },
		func(s *api.Spec) error { s.Styles[0].Widths[2] = -1; return api.ErrBound },
		func(s *api.Spec) error { s.Styles[1].Widths = many(7); return api.ErrMany },
		func(s *api.Spec) error { s.Filter = append(s.Filter, "x"); return api.ErrFilter },
		func(s *api.Spec) error { s.Pages[0] = append(s.Pages[0], make([]api.Run, 30)...); return api.ErrMany },
		func(s *api.Spec) error { s.Pages[0][0].Font = -1; return api.ErrNone },
		func(s *api.Spec) error { s.Pages[0][0].At.Y = -1000001; return api.ErrBound },
		func(s *api.Spec) error { s.Pages[0][0].Text += "\xff"; return api.ErrShape },
		func(s *api.Spec) error { s.Pages[0][0].Text += "z"; return api.ErrNone },
		func(s *api.Spec) error { s.Pages[0][0].Text += strings.Repeat("a", 201); return api.ErrMany },
		func(s *api.Spec) error { s.Pages[0][1].Size = 1000001; return api.ErrBound },
		func(s *api.Spec) error { s.Pages[1] = make([]api.Run, 31); return api.ErrMany },
	}
}

func TestFirstError(t *testing.T) { // M1, Z3
	start := func() api.Spec {
		s := spec(run(0, "a"), run(1, "a"))
		s.Pages = append(s.Pages, []api.Run{run(0, "b")})
		return s
	}
	l := worse()
	for i := range l {
		s := start()
		refuses(t, s, l[i](&s))
		for k := i + 1; k < len(l); k++ {
			s := start()
			l[k](&s)
			want := l[i](&s)
			refuses(t, s, want)
		}
	}
	for i := range l { // and all that are told later at once
		s := start()
		var want error
		for k := len(l) - 1; k >= i; k-- {
			want = l[k](&s)
		}
		refuses(t, s, want)
	}
}

func TestFirstErrorOfRun(t *testing.T) { // M3: the spec's error is told ahead of the run's
	for _, x := range []struct {
		s    api.Spec
		x    api.Run
		want error
	}{
		{with(spec(), func(s *api.Spec) { s.Filter = []string{"x"} }), run(7, ""), api.ErrFilter},
		{spec(api.Run{Size: 1000001}), run(7, ""), api.ErrBound},
		{spec(), api.Run{Font: 2, Size: 1000001}, api.ErrNone},
		{spec(), api.Run{Size: 1000001, Text: "\xff"}, api.ErrBound},
		{spec(), run(0, "z\xff"), api.ErrShape},
		{spec(), run(0, strings.Repeat("a", 300)+"z"), api.ErrNone},
		{spec(), run(0, strings.Repeat("a", 300)), api.ErrMany},
	} {
		if l, err := press.Glyphs(x.s, x.x); err != x.want || len(l) != 0 {
			t.Errorf("Glyphs(%v, %v): %v, %v, want %v alone", x.s, x.x, l, err, x.want)
		}
	}
}

func TestLeastFile(t *testing.T) { // M2, F1
	want := `%PDF-1.4
1 0 obj
<< /Pages 2 0 R /Type /Catalog >>
endobj
2 0 obj
<< /Count 0 /Kids [] /MediaBox [0 0 600 800] /Resources << /Font << >> >> /Type /Pages >>
endobj
xref
1 2
0000000009 00000 n 
0000000058 00000 n 
trailer
<< /Root 1 0 R >>
startxref
163
%%EOF
`
	for _, s := range []api.Spec{{}, {Filter: []string{hexName}}, {Styles: []api.Style{}, Pages: [][]api.Run{}, Filter: []string{}}} {
		if got := built(t, s); got != want {
			t.Errorf("Build(%v): %s, want %s", s, got, want)
		}
	}
}

func TestWholeFile(t *testing.T) { // M2, E2, H3, F1
	s := api.Spec{
		Styles: []api.Style{{Signs: "b(", Widths: []int{500, 5000}}, {Wide: true, Signs: "😀", Widths: []int{0}}},
		Pages:  [][]api.Run{{{Font: 1, Size: -7500, At: api.Point{X: 1, Y: -1000000}, Text: "😀😀"}, {Size: 10000, Text: "b(b"}}, nil},
	}
	want := []string{
		"<< /Pages 2 0 R /Type /Catalog >>\n",
		"<< /Count 2 /Kids [8 0 R 10 0 R] /MediaBox [0 0 600 800] /Resources << /Font << /F0 4 0 R /F1 6 0 R >> >> /Type /Pages >>\n",
		"<< /Length 136 >>\nstream\n1 begincodespacerange\n<00> <FF>\nendcodespacerange\n1 beginbfrange\n<00> <00> <0062>\nendbfrange\n1 beginbfrange\n<01> <01> <0028>\nendbfrange\n\nendstream\n",
		"<< /FirstChar 0 /Subtype /Type1 /ToUnicode 3 0 R /Type /Font /Widths [500 5000] >>\n",
		"<< /Length 105 >>\nstream\n1 begincodespacerange\n<0000> <FFFF>\nendcodespacerange\n1 beginbfrange\n<0000> <0000> <D83DDE00>\nendbfrange\n\nendstream\n",
		"<< /Subtype /Type0 /ToUnicode 5 0 R /Type /Font /W [0 [0]] >>\n",
		"<< /Length 96 >>\nstream\nBT\n/F1 -7.5 Tf\n0.001 -1000 Td\n(\\000\\000\\000\\000) Tj\nET\nBT\n/F0 10 Tf\n0 0 Td\n(\\000\\001\\000) Tj\nET\n\nendstream\n",
		"<< /Contents 7 0 R /Parent 2 0 R /Type /Page >>\n",
		"<< /Length 0 >>\nstream\n\nendstream\n",
		"<< /Contents 9 0 R /Parent 2 0 R /Type /Page >>\n",
	}
	text, places := "%PDF-1.4\n", ""
	for i, x := range want {
		places += fmt.Sprintf("%010d 00000 n \n", len(text))
		text += fmt.Sprintf("%d 0 obj\n%sendobj\n", i+1, x)
	}
	text += fmt.Sprintf("xref\n1 10\n%strailer\n<< /Root 1 0 R >>\nstartxref\n%d\n%%%%EOF\n", places, len(text))
	if got := built(t, s); got != text {
		t.Errorf("Build(%v): %s, want %s", s, got, text)
	}
}

// example: the spec of the document's session, when it first has runs.
func example() api.Spec {
	s := spec(
		api.Run{Size: 10000, At: api.Point{X: 50000, Y: 700000}, Text: "ab a"},
		api.Run{Font: 1, Size: 12000, At: api.Point{X: 50000, Y: 680500}, Text: "éa"},
		api.Run{Size: 10000, At: api.Point{X: 90000, Y: 700250}, Text: "ba"})
	return s
}

func TestExample(t *testing.T) { // M2
	s := example()
	f := read(t, s)
	for n, want := range map[int]string{
		1: "<< /Pages 2 0 R /Type /Catalog >>",
		2: "<< /Count 1 /Kids [8 0 R] /MediaBox [0 0 600 800] /Resources << /Font << /F0 4 0 R /F1 6 0 R >> >> /Type /Pages >>",
		3: "<< /Length 179 >>",
		4: "<< /FirstChar 0 /Subtype /Type1 /ToUnicode 3 0 R /Type /Font /Widths [500 500 500] >>",
		8: "<< /Contents 7 0 R /Parent 2 0 R /Type /Page >>",
	} {
		if got := object(t, f, n); got != want {
			t.Errorf("object %d: %s, want %s", n, got, want)
		}
	}
	filtered := with(s, func(s *api.Spec) { s.Filter = []string{hexName, runsName} })
	if got, want := object(t, read(t, filtered), 3), "<< /Filter [/ASCIIHexDecode /RunLengthDecode] /Length 377 >>"; got != want {
		t.Errorf("object 3: %s, want %s", got, want)
	}
	more := with(filtered, func(s *api.Spec) { s.Pages = append(slices.Clone(s.Pages), nil) })
	for i, x := range []api.Spec{{}, s, filtered, more} {
		if got, want := len(built(t, x)), []int{258, 1272, 1906, 2113}[i]; got != want {
			t.Errorf("Build(%v): %d bytes, want %d", x, got, want)
		}
	}
}

func TestStreams(t *testing.T) { // M2, D3: by whichever filters, what is taken apart is the same
	plain := read(t, example())
	for _, names := range [][]string{{hexName}, {fiveName}, {runsName}, {fiveName, runsName}, {runsName, hexName, fiveName}, {fiveName, fiveName, fiveName}, {hexName, hexName, hexName}} {
		f := read(t, with(example(), func(s *api.Spec) { s.Filter = names }))
		for _, n := range []int{3, 5, 7} {
			o, err := f.Get(n)
			if err != nil || !o.Stream {
				t.Fatalf("Get(%d): %v, %v", n, o, err)
			}
			made, err := filter.Make(names, data(t, plain, n))
			if err != nil || o.Data != made || data(t, f, n) != data(t, plain, n) {
				t.Errorf("stream %d by %v: %q, %v, want %q", n, names, o.Data, err, made)
			}
			if l, err := f.Filters(o); err != nil || !slices.Equal(l, names) {
				t.Errorf("filters of stream %d: %v, %v, want %v", n, l, err, names)
			}
			if v, _ := value.Get(o.V, "Filter"); v.Kind != api.List {
				t.Errorf("Filter of stream %d: %v", n, v)
			}
		}
		for _, n := range []int{1, 2, 4, 6, 8} {
			if got, want := object(t, f, n), object(t, plain, n); got != want {
				t.Errorf("object %d by %v: %s, want %s", n, names, got, want)
			}
		}
	}
}

func TestGreatSpec(t *testing.T) { // M2: numbers follow each other from 3 on
	s := api.Spec{}
	for i := range 4 {
		s.Styles = append(s.Styles, style(i%2 == 1, signs(200), 5000))
	}
	for i := range api.MaxPages {
		s.Pages = append(s.Pages, []api.Run{run(i%4, "!")})
	}
	f := read(t, s)
	if l := f.Numbers(); len(l) != 2+8+24 || l[33] != 34 {
		t.Errorf("Numbers: %v", l)
	}
	want := "<< /Count 12 /Kids [12 0 R 14 0 R 16 0 R 18 0 R 20 0 R 22 0 R 24 0 R 26 0 R 28 0 R 30 0 R 32 0 R 34 0 R] /MediaBox [0 0 600 800] /Resources << /Font << /F0 4 0 R /F1 6 0 R /F2 8 0 R /F3 10 0 R >> >> /Type /Pages >>"
	if got := object(t, f, 2); got != want {
		t.Errorf("object 2: %s, want %s", got, want)
	}
	for i := range 4 {
		l, wide, err := cmap.Parse(data(t, f, 3+2*i))
		if err != nil || wide != (i%2 == 1) || len(l) != 200 || l[199] != (api.Span{From: 199, To: 199, Text: string(rune('!' + 199))}) {
			t.Errorf("codes of style %d: %v, %v, %v", i, l, wide, err)
		}
	}
	for i := range api.MaxPages {
		coded := `\000`
		if i%2 == 1 {
			coded = `\000\000`
		}
		told := fmt.Sprintf("BT\n/F%d 10 Tf\n0 0 Td\n(%s) Tj\nET\n", i%4, coded)
		if got := data(t, f, 11+2*i); got != told {
			t.Errorf("page %d is told %q, want %q", i, got, told)
		}
		if got, want := object(t, f, 12+2*i), fmt.Sprintf("<< /Contents %d 0 R /Parent 2 0 R /Type /Page >>", 11+2*i); got != want {
			t.Errorf("page %d: %s, want %s", i, got, want)
		}
	}
}

// filled: runs that are written as just so many bytes, all of them nearly as long, in the style 0, which has 200 signs.
func filled(bytes int) []api.Run {
	const least, most = len("BT\n/F0 1 Tf\n0 0 Td\n() Tj\nET\n"), 800
	first, later := "!", string(rune('!'+65)) // as \000, and as A
	var l []api.Run
	for left := (bytes + most - 1) / most; left > 0; left-- {
		n := bytes / left
		bytes -= n
		n -= least
		l = append(l, api.Run{Size: 1000, Text: strings.Repeat(first, n/4) + strings.Repeat(later, n%4)})
	}
	return l
}

// full: a spec whose pages are told so many bytes each.
func full(names []string, bytes ...int) api.Spec {
	s := api.Spec{Styles: []api.Style{style(false, signs(200), 1)}, Filter: names}
	for _, n := range bytes {
		s.Pages = append(s.Pages, filled(n))
	}
	return s
}

// tooMany: a spec may be, but no file is made of it.
func tooMany(t *testing.T, s api.Spec) {
	t.Helper()
	passes(t, s)
	if text, err := press.Build(s); err != api.ErrMany || text != "" {
		t.Errorf("Build(%.300s): %.100q, %v, want ErrMany alone", fmt.Sprint(s), text, err)
	}
}

func TestTooGreatPages(t *testing.T) { // M2, H3, D3
	for _, n := range []int{1000, 5000, 9999, api.MaxData} {
		if got := data(t, read(t, full(nil, n)), 5); len(got) != n {
			t.Fatalf("a page of %d bytes has %d", n, len(got))
		}
	}
	tooMany(t, full(nil, api.MaxData+1))
	tooMany(t, full(nil, 100, api.MaxData+1))
	// Digits of base 16, and '>'; the font's program has less.
	read(t, full([]string{hexName}, api.MaxData/2-1))
	tooMany(t, full([]string{hexName}, api.MaxData/2))
	tooMany(t, full([]string{hexName}, 100, api.MaxData/2))
}

func TestTooGreatFonts(t *testing.T) { // M2, D3
	s := with(full(nil), func(s *api.Spec) { s.Filter = []string{hexName} })
	read(t, s)
	tooMany(t, with(s, func(s *api.Spec) { s.Filter = []string{hexName, hexName} }))
	tooMany(t, with(s, func(s *api.Spec) {
		s.Styles = []api.Style{style(false, "a", 1), style(true, signs(200), 1)}
		s.Filter = []string{hexName, hexName}
	}))
}

func TestTooGreatFile(t *testing.T) { // M2, F1
	n, last := 9000, len(built(t, full(nil, 15000, 15000, 9000, 9000)))
	n += api.MaxFile - last - 5
	for ; ; n++ {
		text, err := press.Build(full(nil, 15000, 15000, 9000, n))
		if err != nil {
			break
		}
		last = len(text)
	}
	tooMany(t, full(nil, 15000, 15000, 9000, n))
	if last != api.MaxFile {
		t.Errorf("the greatest file has %d bytes", last)
	}
	tooMany(t, full(nil, 15000, 15000, 15000, 15000))
}

// short form of glyphs: text, where each begins and ends, its size, its box.
func short(l []api.Glyph) string {
	var b strings.Builder
	for i, g := range l {
		if i > 0 {
			b.WriteString("; ")
		}
		b.WriteString(g.Text)
		for _, n := range []int{g.At.X, g.At.Y, g.End.X, g.End.Y, g.Size, g.Box.X0, g.Box.Y0, g.Box.X1, g.Box.Y1} {
			s, err := fix.Text(n)
			if err != nil {
				s = fmt.Sprint(n, err)
			}
			b.WriteString(" " + s)
		}
	}
	return b.String()
}

func TestGlyphs(t *testing.T) { // M3
	s := api.Spec{Styles: []api.Style{{Signs: "ab ", Widths: []int{500, 333, 0}}, {Wide: true, Signs: "é😀", Widths: []int{600, 5000}}}}
	at := func(x, y int) api.Point { return api.Point{X: x, Y: y} }
	for _, x := range []struct {
		x    api.Run
		want string
	}{
		{api.Run{}, ""},
		{api.Run{Size: 10000, At: at(50000, 700000)}, ""},
		{api.Run{Size: 10000, At: at(50000, 700000), Text: "ab a"}, "a 50 700 55 700 10 50 700 55 710; b 55 700 58.33 700 10 55 700 58.33 710;   58.33 700 58.33 700 10 58.33 700 58.33 710; a 58.33 700 63.33 700 10 58.33 700 63.33 710"},
		{api.Run{Font: 1, Size: 12000, At: at(50000, 680500), Text: "é😀é"}, "é 50 680.5 57.2 680.5 12 50 680.5 57.2 692.5; 😀 57.2 680.5 117.2 680.5 12 57.2 680.5 117.2 692.5; é 117.2 680.5 124.4 680.5 12 117.2 680.5 124.4 692.5"},
		{api.Run{Size: 0, At: at(5, 6), Text: "ab"}, "a 0.005 0.006 0.005 0.006 0 0.005 0.006 0.005 0.006; b 0.005 0.006 0.005 0.006 0 0.005 0.006 0.005 0.006"},
		{api.Run{Size: -10000, At: at(0, 0), Text: "aa"}, "a 0 0 -5 0 -10 -5 -10 0 0; a -5 0 -10 0 -10 -10 -10 -5 0"},
		{api.Run{Size: 7, At: at(-3, -4), Text: "bba"}, "b -0.003 -0.004 -0.001 -0.004 0.007 -0.003 -0.004 -0.001 0.003; b -0.001 -0.004 0.001 -0.004 0.007 -0.001 -0.004 0.001 0.003; a 0.001 -0.004 0.004 -0.004 0.007 0.001 -0.004 0.004 0.003"}, // each is rounded down
		{api.Run{Size: -7, Text: "ba"}, "b 0 0 -0.003 0 -0.007 -0.003 -0.007 0 0; a -0.003 0 -0.007 0 -0.007 -0.007 -0.007 -0.003 0"},
		{api.Run{Font: 1, Size: 1000000, At: at(1000000, -1000000), Text: "😀"}, "😀 1000 -1000 6000 -1000 1000 1000 -1000 6000 0"},
		{api.Run{Font: 1, Size: -1000000, At: at(-1000000, 1000000), Text: "😀"}, "😀 -1000 1000 -6000 1000 -1000 -6000 0 -1000 1000"},
	} {
		l, err := press.Glyphs(s, x.x)
		if got := short(l); err != nil || got != x.want {
			t.Errorf("Glyphs(%v): %s, %v, want %s", x.x, got, err, x.want)
		}
	}
}

func TestFarGlyphs(t *testing.T) { // M3: no error is named of where they end
	s := api.Spec{Styles: []api.Style{style(false, "a", 5000)}}
	for _, x := range []api.Run{
		{Size: 1000000, At: api.Point{X: 1000000}, Text: strings.Repeat("a", 200)},
		{Size: -1000000, At: api.Point{X: -1000000}, Text: strings.Repeat("a", 200)},
	} {
		l, err := press.Glyphs(s, x)
		if want := 1001 * x.At.X; err != nil || len(l) != 200 || l[199].End.X != want || l[199].At.X != 996*x.At.X {
			t.Errorf("Glyphs(%v): %d, %v", x, len(l), err)
		}
	}
}

// drawn: a spec that mostly may be.
func drawn(r *rand.Rand) api.Spec {
	edges := []int{0, 1, -1, 500, 5000, 5001, 1000000, -1000000, 1000001, math.MaxInt, math.MinInt}
	texts := []string{"", "a", "ab", "ab é€", "ab😀\x00", signs(200), "aa", "\xff", signs(201), strings.Repeat("a", 201)}
	pick := func(often int) int {
		if r.Intn(100) == 0 {
			return edges[r.Intn(len(edges))]
		}
		return often
	}
	text := func() string {
		if r.Intn(50) == 0 {
			return texts[r.Intn(len(texts))]
		}
		return texts[r.Intn(5)]
	}
	var s api.Spec
	for range 1 + r.Intn(4) {
		x := style(r.Intn(2) == 0, text(), 0)
		for i := range x.Widths {
			x.Widths[i] = pick(r.Intn(1000))
		}
		if r.Intn(100) == 0 {
			x.Widths = append(x.Widths, 5)
		}
		s.Styles = append(s.Styles, x)
	}
	for range r.Intn(api.MaxPages + 2) {
		var p []api.Run
		for range r.Intn(3) {
			x := api.Run{Font: pick(r.Intn(len(s.Styles))), Size: pick(r.Intn(20000)), At: api.Point{X: pick(1), Y: pick(2)}}
			if x.Font >= 0 && x.Font < len(s.Styles) {
				x.Text = s.Styles[x.Font].Signs
			}
			if r.Intn(50) == 0 {
				x.Text = text()
			}
			p = append(p, x)
		}
		s.Pages = append(s.Pages, p)
	}
	for range r.Intn(5) {
		s.Filter = append(s.Filter, []string{hexName, fiveName, runsName}[r.Intn(3)])
	}
	return s
}

func TestAnySpec(t *testing.T) { // Z1, Z3
	r := rand.New(rand.NewSource(1))
	good := 0
	for range 5000 {
		s := drawn(r)
		err := press.Check(s)
		if _, is := err.(api.Errno); err != nil && !is {
			t.Fatalf("Check(%v): %T", s, err)
		}
		text, err2 := press.Build(s)
		again, err3 := press.Build(s)
		if err2 != err3 || text != again || err != nil && err2 != err || (text == "") != (err2 != nil) {
			t.Fatalf("Build(%v): %.100q, %v, then %.100q, %v; Check: %v", s, text, err2, again, err3, err)
		}
		if err2 == nil {
			good++
		}
		x := api.Run{Font: r.Intn(5) - 1, Size: r.Intn(9), Text: "ab"[:r.Intn(3)]}
		l, err2 := press.Glyphs(s, x)
		if _, is := err2.(api.Errno); err != nil && err2 != err || err2 != nil && (!is || len(l) != 0) || err2 == nil && len(l) != len(x.Text) {
			t.Fatalf("Glyphs(%v, %v): %v, %v; Check: %v", s, x, l, err2, err)
		}
	}
	if good < 1000 || good > 4000 {
		t.Errorf("%d of these specs may be", good)
	}
}

func TestUnchanged(t *testing.T) { // Z2
	hidden := func() api.Spec { // what stands behind each list would be wrong
		return api.Spec{
			Styles: []api.Style{{Signs: "ab", Widths: []int{5, 6, -1}[:2]}, {Signs: "aa"}}[:1],
			Pages:  [][]api.Run{[]api.Run{run(0, "ab"), run(9, "")}[:1], {run(9, "")}}[:1],
			Filter: []string{fiveName, "x"}[:1],
		}
	}
	all := func(s api.Spec) string {
		s.Styles, s.Pages, s.Filter = s.Styles[:2], s.Pages[:2], s.Filter[:2]
		return fmt.Sprint(s, s.Styles[0].Widths[:3], s.Pages[0][:2])
	}
	s := hidden()
	want := built(t, hidden())
	for range 2 {
		passes(t, s)
		if got := built(t, s); got != want {
			t.Errorf("Build(%v): %s, want %s", s, got, want)
		}
		l, err := press.Glyphs(s, s.Pages[0][0])
		if err != nil || len(l) != 2 || l[1].Text != "b" {
			t.Errorf("Glyphs: %v, %v", l, err)
		}
		l = l[:cap(l)]
		for i := range l {
			l[i] = api.Glyph{Text: "spoilt"}
		}
		if got := all(s); got != all(hidden()) || !reflect.DeepEqual(s, hidden()) {
			t.Errorf("it was changed: %s", got)
		}
	}
}
