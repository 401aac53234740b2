package pages_test

import (
	"fmt"
	"maps"
	"math/rand"
	"slices"
	"strconv"
	"strings"
	"testing"

	"foliowright/api"
	"foliowright/file"
	"foliowright/filter"
	"foliowright/fix"
	"foliowright/pages"
	"foliowright/parse"
	"foliowright/press"
)

// objects of a file, by their numbers, as texts; behind mark there is a stream's data.
type objects map[int]string

const (
	mark  = " stream:"
	spoil = "spoilt" // instead of an object: where it should stand, something else does
)

// least: a file of one page, with a font that has the signs a and b.
func least() objects {
	return objects{
		1: "<< /Pages 2 0 R /Type /Catalog >>",
		2: "<< /Kids [3 0 R] /MediaBox [0 0 600 800] /Resources << /Font << /F 4 0 R >> >> /Type /Pages >>",
		3: "<< /Contents 5 0 R /Parent 2 0 R /Type /Page >>",
		4: "<< /FirstChar 97 /Subtype /Type1 /Type /Font /Widths [500 250] >>",
		5: "<< >>" + mark + "BT /F 10 Tf (ab) Tj ET",
	}
}

// with: the least file, in which these objects are others; an empty text: there is none.
func with(change objects) objects {
	all := least()
	maps.Copy(all, change)
	maps.DeleteFunc(all, func(_ int, s string) bool { return s == "" })
	return all
}

// object of that number, of its text.
func object(t *testing.T, n int, text string) api.Object {
	t.Helper()
	text, data, stream := strings.Cut(text, mark)
	v, _, err := parse.Value(text, 0)
	if err != nil {
		t.Fatalf("Value(%.300q): %v", text, err)
	}
	return api.Object{N: n, V: v, Stream: stream, Data: data}
}

// laid: a file of objects, whose root is 1.
func laid(t *testing.T, all objects) string {
	t.Helper()
	var l []api.Object
	for _, n := range slices.Sorted(maps.Keys(all)) {
		text := all[n]
		if text == spoil {
			text = "(" + spoil + ")"
		}
		l = append(l, object(t, n, text))
	}
	s, err := file.Build(l, 1)
	if err != nil {
		t.Fatalf("Build(%.300s): %v", fmt.Sprint(l), err)
	}
	return strings.ReplaceAll(s, " obj\n("+spoil+")", " obx\n("+spoil+")")
}

// text of numbers, with blanks between.
func text(l ...int) string {
	var out []string
	for _, n := range l {
		s, err := fix.Text(n)
		if err != nil {
			s = err.Error()
		}
		out = append(out, s)
	}
	return strings.Join(out, " ")
}

// short form of pages: their boxes, and of each glyph its text and where it begins.
func short(l []api.Page) string {
	var b strings.Builder
	for i, p := range l {
		if i > 0 {
			b.WriteString(" | ")
		}
		b.WriteString(text(p.Box.X0, p.Box.Y0, p.Box.X1, p.Box.Y1))
		for _, g := range p.Glyphs {
			b.WriteString("; " + g.Text + " " + text(g.At.X, g.At.Y))
		}
	}
	return b.String()
}

// gives: a file has these pages; refuses: it tells this error, and nothing besides.
func gives(t *testing.T, s, want string) {
	t.Helper()
	l, err := pages.Read(s)
	if got := short(l); err != nil || got != want {
		t.Errorf("Read(%.900q): %.500s, %v, want %.500s", s, got, err, want)
	}
}

func refuses(t *testing.T, s string, want error) {
	t.Helper()
	if l, err := pages.Read(s); err != want || len(l) != 0 {
		t.Errorf("Read(%.900q): %.300s, %v, want %v alone", s, short(l), err, want)
	}
}

// reads, fails: the same, of the least file with these changes.
func reads(t *testing.T, change objects, want string) {
	t.Helper()
	gives(t, laid(t, with(change)), want)
}

func fails(t *testing.T, change objects, want error) {
	t.Helper()
	refuses(t, laid(t, with(change)), want)
}

// plain: what the least file has.
const plain = "0 0 600 800; a 0 0; b 5 0"

func TestLeast(t *testing.T) { // J1, J2
	s := laid(t, least())
	l, err := pages.Read(s)
	want := []api.Page{{Box: api.Box{X1: 600000, Y1: 800000}, Glyphs: []api.Glyph{
		{Text: "a", End: api.Point{X: 5000}, Size: 10000, Box: api.Box{X1: 5000, Y1: 10000}},
		{Text: "b", At: api.Point{X: 5000}, End: api.Point{X: 7500}, Size: 10000, Box: api.Box{X0: 5000, X1: 7500, Y1: 10000}},
	}}}
	if err != nil || len(l) != 1 || l[0].Box != want[0].Box || !slices.Equal(l[0].Glyphs, want[0].Glyphs) {
		t.Errorf("Read(%q): %v, %v, want %v", s, l, err, want)
	}
	gives(t, s, plain)
}

func TestNoFile(t *testing.T) { // J1, F2: Read's error, and Root's
	s := laid(t, least())
	refuses(t, "", api.ErrText)
	refuses(t, "%PDF-1.4\n", api.ErrText)
	refuses(t, " "+s, api.ErrText)
	refuses(t, s+strings.Repeat(" ", api.MaxFile+1-len(s)), api.ErrMany)
	gives(t, s+strings.Repeat(" ", api.MaxFile-len(s)), plain)
	refuses(t, strings.Replace(s, "xref", "xxxx", 1), api.ErrText)
	last := func(words string) string { return strings.Replace(s, "<< /Root 1 0 R >>", words, 1) }
	refuses(t, last("7"), api.ErrKind)
	refuses(t, last("<< "), api.ErrText)
	refuses(t, last("<< /Root 1 0 R /Prev -1 >>"), api.ErrKind)
	refuses(t, last("<< >>"), api.ErrNone)
	refuses(t, last("<< /root 1 0 R >>"), api.ErrNone)
	for _, v := range []string{"1", "null", "/a", "[1 0 R]", "<< /Pages 2 0 R >>"} {
		refuses(t, last("<< /Root "+v+" >>"), api.ErrKind)
	}
	gives(t, last("<< /Root 1 0 R /Other [] >>"), plain)
	refuses(t, last("<< /Root 2 0 R >>"), api.ErrKind) // it has no Pages
	refuses(t, last("<< /Root 9 0 R >>"), api.ErrKind) // it isn't there: it is Null
}

// chain of references from object 20 on: so many, and then what is told.
func chain(many int, end string) objects {
	all := objects{}
	for i := range many - 1 {
		all[20+i] = fmt.Sprintf("%d 0 R", 21+i)
	}
	all[20+many-1] = end
	return all
}

// put: these objects, and another one.
func put(all objects, n int, text string) objects {
	all = maps.Clone(all)
	all[n] = text
	return all
}

// followed: wherever a text with 20 0 R in it stands as that object, references are followed: MaxChain of them, no more; what they lead to is as told.
func followed(t *testing.T, n int, text, end, want string) {
	t.Helper()
	for _, many := range []int{1, 2, api.MaxChain} {
		reads(t, put(chain(many, end), n, text), want)
	}
	fails(t, put(chain(api.MaxChain+1, end), n, text), api.ErrCycle)
	fails(t, objects{n: text, 20: "20 0 R"}, api.ErrCycle)
	fails(t, objects{n: text, 20: "21 0 R", 21: "20 0 R"}, api.ErrCycle)
	fails(t, objects{n: text, 20: spoil}, api.ErrText)
	fails(t, objects{n: text, 20: "21 0 R", 21: spoil}, api.ErrText)
}

func TestFollowed(t *testing.T) { // J1, J2, F5
	all := least()
	for _, many := range []int{1, 2, api.MaxChain - 1} {
		reads(t, put(chain(many, all[1]), 1, "20 0 R"), plain)
	}
	fails(t, put(chain(api.MaxChain, all[1]), 1, "20 0 R"), api.ErrCycle)
	fails(t, objects{1: "1 0 R"}, api.ErrCycle)
	fails(t, objects{1: spoil}, api.ErrText)
	followed(t, 1, "<< /Pages 20 0 R >>", all[2], plain)
	followed(t, 2, strings.Replace(all[2], "3 0 R", "20 0 R", 1), all[3], plain)
	followed(t, 2, strings.Replace(all[2], "[3 0 R]", "20 0 R", 1), "[3 0 R]", plain)
	followed(t, 2, strings.Replace(all[2], "[0 0 600 800]", "20 0 R", 1), "[1 2 3.5 -4]", "1 2 3.5 -4; a 0 0; b 5 0")
	followed(t, 2, strings.Replace(all[2], "<< /Font << /F 4 0 R >> >>", "20 0 R", 1), "<< /Font << /F 4 0 R >> >>", plain)
	followed(t, 2, strings.Replace(all[2], "<< /F 4 0 R >>", "20 0 R", 1), "<< /F 4 0 R >>", plain)
	followed(t, 2, strings.Replace(all[2], "4 0 R", "20 0 R", 1), all[4], plain)
}

func TestRoot(t *testing.T) { // J1
	for _, v := range []string{"null", "1", "true", "(a)", "/a", "[2 0 R]", "<< >>", "<< /pages 2 0 R >>", "<< /Type /Catalog >>", ""} {
		fails(t, objects{1: v}, api.ErrKind)
	}
	for _, v := range []string{"null", "2", "/a", "[2 0 R]", "[]", least()[2], "true", "(2 0 R)"} {
		fails(t, objects{1: "<< /Pages " + v + " >>"}, api.ErrKind)
	}
	// Its Type tells nothing, nor does it that it is a stream.
	reads(t, objects{1: "<< /Pages 2 0 R >>"}, plain)
	reads(t, objects{1: "<< /Pages 2 0 R /Type 7 /Kids 8 >>"}, plain)
	reads(t, objects{1: "<< /Pages 2 0 R >>" + mark + "x"}, plain)
	// A page alone is a tree, of which the root is no part.
	reads(t, objects{1: "<< /Pages 3 0 R >>", 3: full("5 0 R")}, plain)
	fails(t, objects{1: "<< /MediaBox [0 0 1 1] /Pages 3 0 R >>"}, api.ErrKind)
	reads(t, objects{1: "<< /MediaBox [0 0 1 1] /Pages 2 0 R >>"}, plain)
	reads(t, objects{1: strings.Replace(least()[2], "/Kids", "/Pages 1 0 R /Kids", 1)}, plain)
}

// full: a page that has all itself.
func full(contents string) string {
	return "<< /Contents " + contents + " /MediaBox [0 0 600 800] /Resources << /Font << /F 4 0 R >> >> /Type /Page >>"
}

func TestNodes(t *testing.T) { // J1
	for _, v := range []string{"null", "1", "true", "(a)", "/Page", "[]", "<< >>", "<< /type /Page >>", "<< /Type null >>", "<< /Type (Page) >>", "<< /Type 7 >>", "<< /Type [/Page] >>",
		"<< /Type /Catalog >>", "<< /Type /page >>", "<< /Type /Pages1 >>", "<< /Type /Pag >>", "<< /Type /Font >>", "[<< /Type /Page >>]", ""} {
		fails(t, objects{2: v}, api.ErrKind)
		fails(t, objects{3: v}, api.ErrKind)
	}
	fails(t, objects{3: "<< /MediaBox [0 0 1 1] /Type 20 0 R >>", 20: "/Page"}, api.ErrKind) // it isn't followed
	for _, v := range []string{"null", "1", "/a", "(a)", "<< >>", "<< /a 3 0 R >>", "3 0 R", "9 0 R", "true"} {
		fails(t, objects{2: "<< /Kids " + v + " /MediaBox [0 0 1 1] /Type /Pages >>"}, api.ErrKind)
		fails(t, objects{2: "<< /Kids [" + v + "] /MediaBox [0 0 1 1] /Type /Pages >>", 3: "7"}, api.ErrKind)
	}
	fails(t, objects{2: "<< /Type /Pages >>"}, api.ErrKind)
	fails(t, objects{2: "<< /kids [3 0 R] /Type /Pages >>"}, api.ErrKind)
	fails(t, objects{2: "<< /Kids [3 0 R " + full("5 0 R") + "] /MediaBox [0 0 1 1] /Type /Pages >>"}, api.ErrKind)
	reads(t, objects{2: "<< /Kids [] /Type /Pages >>"}, "")
	reads(t, objects{3: "<< /Kids [7 8] /Count (x) /Parent 3 0 R /Contents 5 0 R /Type /Page >>"}, plain) // a page's Kids tell nothing
	reads(t, objects{3: least()[3] + mark + "x"}, plain)
}

func TestTree(t *testing.T) { // J1
	page := func(n int) string { return fmt.Sprintf("<< /MediaBox [%d 0 0 0] /Type /Page >>", n) }
	kids := func(s string) string { return "<< /Kids [" + s + "] /Type /Pages >>" }
	all := objects{
		2:  kids("10 0 R 11 0 R 12 0 R 19 0 R"),
		10: page(10), 11: kids("13 0 R 14 0 R"), 12: kids(""), 13: kids("15 0 R 16 0 R"), 14: page(14), 15: page(15), 16: kids("17 0 R"), 17: page(17), 19: page(19),
	}
	reads(t, all, "10 0 0 0 | 15 0 0 0 | 17 0 0 0 | 14 0 0 0 | 19 0 0 0")
	reads(t, put(all, 2, kids("19 0 R 12 0 R 11 0 R 10 0 R")), "19 0 0 0 | 15 0 0 0 | 17 0 0 0 | 14 0 0 0 | 10 0 0 0")
	deep := objects{2: kids("10 0 R")}
	for n := 10; n < api.MaxObject; n++ {
		deep[n] = kids(strconv.Itoa(n+1) + " 0 R")
	}
	reads(t, put(deep, api.MaxObject, page(5)), "5 0 0 0")
	fails(t, put(deep, api.MaxObject, kids("10 0 R")), api.ErrCycle)
}

func TestCycles(t *testing.T) { // J1
	kids := func(s string) string { return "<< /Kids [" + s + "] /MediaBox [0 0 1 1] /Type /Pages >>" }
	const page = "<< /Type /Page >>"
	for _, x := range []objects{
		{2: kids("2 0 R")},
		{2: kids("3 0 R 2 0 R"), 3: page},
		{2: kids("3 0 R"), 3: kids("2 0 R")},
		{2: kids("3 0 R 4 0 R"), 3: page, 4: kids("6 0 R"), 6: kids("4 0 R")},
		{2: kids("3 0 R 3 0 R"), 3: page},
		{2: kids("3 0 R 4 0 R 3 0 R"), 3: page, 4: page},
		{2: kids("4 0 R 3 0 R"), 3: page, 4: kids("3 0 R")},
		{2: kids("3 0 R 3 0 R"), 3: kids("")},
		{2: kids("6 0 R 6 0 R"), 3: page, 6: "3 0 R"},
		{2: kids("3 0 R"), 3: kids("6 0 R"), 6: "2 0 R"},
	} {
		fails(t, x, api.ErrCycle)
	}
	reads(t, objects{2: kids("3 0 R 6 0 R"), 3: page, 6: "3 0 R"}, "0 0 1 1 | 0 0 1 1") // object 6 is another one
}

func TestManyPages(t *testing.T) { // J1
	many := func(n int) (objects, string) {
		all, kids := objects{}, ""
		for i := range n {
			all[10+i] = "<< /Type /Page >>"
			kids += fmt.Sprintf("%d 0 R ", 10+i)
		}
		return all, kids
	}
	tree := func(kids string) string { return "<< /Kids [" + kids + "] /MediaBox [0 0 1 1] /Type /Pages >>" }
	for n := range api.MaxPages + 1 {
		all, kids := many(n)
		reads(t, put(all, 2, tree(kids)), strings.TrimSuffix(strings.Repeat("0 0 1 1 | ", n), " | "))
	}
	all, kids := many(api.MaxPages + 1)
	fails(t, put(all, 2, tree(kids)), api.ErrMany)
	fails(t, put(all, 2, tree(kids+"7")), api.ErrMany)
	all[40] = tree("22 0 R")
	fails(t, put(all, 2, tree(strings.Replace(kids, "22 0 R", "40 0 R", 1))), api.ErrMany)
	// What isn't a page is told as that, also behind all that may be.
	for text, want := range map[string]error{"<< >>": api.ErrKind, "<< /Type /Pages >>": api.ErrKind, "20 0 R": api.ErrMany, "22 0 R": api.ErrCycle, spoil: api.ErrText} {
		fails(t, put(put(all, 2, tree(kids)), 22, text), want)
	}
	fails(t, put(all, 2, tree(strings.Replace(kids, "22 0 R", "21 0 R", 1))), api.ErrCycle)
	fails(t, put(all, 2, tree(strings.Replace(kids, "22 0 R", "null", 1))), api.ErrKind)
	all[22] = tree("")
	reads(t, put(all, 2, tree(kids)), strings.TrimSuffix(strings.Repeat("0 0 1 1 | ", api.MaxPages), " | "))
}

func TestFromAbove(t *testing.T) { // J1
	all := objects{
		2:  "<< /Kids [10 0 R 11 0 R 12 0 R] /MediaBox [1 1 1 1] /Resources << /Font << /F 4 0 R >> >> /Type /Pages >>",
		10: "<< /Kids [13 0 R 14 0 R] /MediaBox [2 2 2 2] /Type /Pages >>",
		11: "<< /Kids [15 0 R 16 0 R] /Resources << /Font << /G 4 0 R >> >> /Type /Pages >>",
		12: "<< /Contents 6 0 R /MediaBox [3 3 3 3] /Type /Page >>",
		13: "<< /Contents 6 0 R /Type /Page >>",
		14: "<< /Contents 6 0 R /MediaBox [4 4 4 4] /Type /Page >>",
		15: "<< /Contents 7 0 R /Type /Page >>",
		16: "<< /Contents 6 0 R /MediaBox [5 5 5 5] /Resources << /Font << /F 4 0 R >> >> /Type /Page >>",
		6:  "<< >>" + mark + "BT /F 1 Tf (a) Tj",
		7:  "<< >>" + mark + "BT /G 1 Tf (b) Tj",
	}
	reads(t, all, "2 2 2 2; a 0 0 | 4 4 4 4; a 0 0 | 1 1 1 1; b 0 0 | 5 5 5 5; a 0 0 | 3 3 3 3; a 0 0")
	// What is nearest counts as a whole: it isn't filled up from above.
	fails(t, put(all, 15, "<< /Contents 6 0 R /Type /Page >>"), api.ErrNone)
	fails(t, put(all, 13, "<< /Contents 6 0 R /Resources << >> /Type /Page >>"), api.ErrNone)
	fails(t, put(all, 13, "<< /Contents 6 0 R /Resources null /Type /Page >>"), api.ErrNone) // it has one, whatever it is
	fails(t, put(all, 13, "<< /MediaBox null /Type /Page >>"), api.ErrKind)
	fails(t, put(all, 13, "<< /MediaBox 9 0 R /Type /Page >>"), api.ErrKind)
	fails(t, put(all, 13, "<< /MediaBox [1 2 3] /Type /Page >>"), api.ErrKind)
	fails(t, put(all, 2, strings.Replace(all[2], "[1 1 1 1]", "7", 1)), api.ErrKind)
	reads(t, put(put(all, 2, strings.Replace(all[2], "[1 1 1 1]", "7", 1)), 15, "<< /MediaBox [6 6 6 6] /Type /Page >>"), "2 2 2 2; a 0 0 | 4 4 4 4; a 0 0 | 6 6 6 6 | 5 5 5 5; a 0 0 | 3 3 3 3; a 0 0")
	fails(t, objects{2: "<< /Contents 5 0 R /Kids [3 0 R] /MediaBox [0 0 1 1] /Type /Pages >>", 3: "<< /Resources 7 0 R /Type /Page >>", 7: spoil}, api.ErrText)
	reads(t, objects{2: "<< /Contents 5 0 R /Kids [3 0 R] /MediaBox [0 0 1 1] /Type /Pages >>", 3: "<< /Type /Page >>"}, "0 0 1 1") // nothing else is from above
	fails(t, objects{2: "<< /Kids [3 0 R 6 0 R] /Type /Pages >>", 3: full("5 0 R"), 6: "<< /Type /Page >>"}, api.ErrKind)           // nor from beside
}

func TestBoxes(t *testing.T) { // J2
	box := func(s string) objects { return objects{3: "<< /MediaBox " + s + " /Type /Page >>"} }
	for s, want := range map[string]string{
		"[0 0 0 0]":                  "0 0 0 0",
		"[1 2 3 4]":                  "1 2 3 4",
		"[-1.5 .25 600.125 1000000]": "-1.5 0.25 600.125 1000000",
		"[4 3 2 1]":                  "4 3 2 1", // as they are told
		"[+1 0 -1000000 1.2345]":     "1 0 -1000000 1.234",
	} {
		reads(t, box(s), want)
	}
	for _, s := range []string{"[]", "[1 2 3]", "[1 2 3 4 5]", "[1 2 3 null]", "[/a 2 3 4]", "[1 (2) 3 4]", "[1 2 20 0 R 4]", "[[1 2 3 4]]", "[true 2 3 4]", "null", "7", "/a", "<< >>", "(1 2 3 4)", "9 0 R"} {
		fails(t, put(box(s), 20, "3"), api.ErrKind)
	}
	fails(t, objects{2: "<< /Kids [3 0 R] /Type /Pages >>"}, api.ErrKind)
}

func TestFonts(t *testing.T) { // J2, G2
	page := func(resources, told string) objects {
		return objects{
			3: "<< /Contents 5 0 R " + resources + " /Type /Page >>", 5: "<< >>" + mark + told,
			6: "<< /FirstChar 97 /Widths [100] >>", 7: "<< /Subtype /Type0 /ToUnicode 8 0 R /W [1 [700]] >>",
			8: "<< >>" + mark + "1 begincodespacerange <0000> <FFFF> endcodespacerange 1 beginbfchar <0001> <20AC> endbfchar",
		}
	}
	const told = "BT /A 1 Tf (aa) Tj /B 1 Tf (ab) Tj /a#20 1 Tf <00010001> Tj"
	want := "0 0 600 800; a 0 0; a 0.1 0; a 0.2 0; b 0.7 0; € 0.95 0; € 1.65 0"
	reads(t, page("/Resources << /Font << /A 6 0 R /B 4 0 R /a#20 7 0 R >> >>", told), want)
	reads(t, page("/Resources << /Font << /a#20 7 0 R /B 4 0 R /A 6 0 R /Z << >> >> /Other 7 >>", told), want)
	reads(t, page("/Resources << /Font << /A << /FirstChar 97 /Widths [100] >> /B 4 0 R /a#20 7 0 R >> >>", told), want)
	for _, none := range []string{"/Resources << >>", "/Resources null", "/Resources 7", "/Resources []", "/Resources << /Font null >>", "/Resources << /Font 7 >>", "/Resources << /Font [4 0 R] >>", "/Resources << /Font /F >>", "/Resources << /Font << >> >>", "/Resources << /font << /F 4 0 R >> >>", "/Resources 9 0 R", "/Resources << /Font 9 0 R >>"} {
		reads(t, page(none, ""), "0 0 600 800")
		fails(t, page(none, "/F 1 Tf"), api.ErrNone)
	}
	for text, want := range map[string]error{
		"7": api.ErrKind, "9 0 R": api.ErrKind, "<< /Widths 7 >>": api.ErrKind, "<< /FirstChar 65536 /Widths [1] >>": api.ErrMany, "<< /ToUnicode 7 >>": api.ErrKind, "<< /ToUnicode 9 0 R >>": api.ErrNone,
		"<< /ToUnicode 8 0 R >>": api.ErrShape, "<< /ToUnicode 4 0 R >>": api.ErrKind, "<< /FirstChar 0 /Widths [20 0 R] >>": api.ErrCycle, "<< /Subtype /Type0 /W [1] >>": api.ErrKind,
	} {
		all := put(page("/Resources << /Font << /F "+text+" >> >>", ""), 20, "20 0 R")
		fails(t, all, want) // whether or not something is shown in it
		fails(t, put(all, 3, "<< /Resources << /Font << /A 4 0 R /F "+text+" /G 7 >> >> /Type /Page >>"), want)
	}
	// By names, rising: the first one's error.
	fails(t, page("/Resources << /Font << /b 7 /a << /ToUnicode 9 0 R >> >> >>", ""), api.ErrNone)
	fails(t, page("/Resources << /Font << /b << /ToUnicode 9 0 R >> /a 7 >> >>", ""), api.ErrKind)
	fails(t, page("/Resources << /Font << /aa 7 /a << /ToUnicode 9 0 R >> >> >>", ""), api.ErrNone)
	fails(t, page("/Resources << /Font << /a 7 /Z << /ToUnicode 9 0 R >> >> >>", ""), api.ErrNone)
}

func TestContents(t *testing.T) { // J2
	stream := func(s string) string { return "<< >>" + mark + s }
	contents := func(s string) objects {
		return objects{3: "<< /Contents " + s + " /Type /Page >>", 6: stream("BT /F 10 Tf (a"), 7: stream("b) Tj ET"), 8: stream(""), 20: "5 0 R", 21: "[5 0 R]"}
	}
	reads(t, contents("5 0 R"), plain)
	reads(t, contents("[5 0 R]"), plain)
	reads(t, contents("[]"), "0 0 600 800")
	reads(t, contents("8 0 R"), "0 0 600 800")
	reads(t, contents("[8 0 R 5 0 R 8 0 R 8 0 R]"), plain)
	reads(t, contents("[5 0 R 5 0 R]"), plain+"; a 0 0; b 5 0")
	// The byte 10 between them is one of the string; of a stream without bytes, too.
	named := "<< /Encoding << /Differences [10 /x] >> /FirstChar 97 /Widths [500] >>"
	reads(t, put(contents("[6 0 R 7 0 R]"), 4, named), "0 0 600 800; a 0 0; x 5 0; b 5 0")
	reads(t, put(contents("[6 0 R 8 0 R 7 0 R]"), 4, named), "0 0 600 800; a 0 0; x 5 0; x 5 0; b 5 0")
	reads(t, objects{3: "<< /Type /Page >>"}, "0 0 600 800")
	fails(t, contents("6 0 R"), api.ErrEnd)
	fails(t, contents("7 0 R"), api.ErrText)
	fails(t, contents("[7 0 R 6 0 R]"), api.ErrText)
	for _, s := range []string{"null", "7", "/a", "(BT ET)", "<< >>", "true", "[7]", "[null]", "[5 0 R null]", "[[5 0 R]]", "[5 0 R /a]", "20 0 R", "21 0 R", "[20 0 R]", "4 0 R", "[5 0 R 4 0 R]"} {
		fails(t, contents(s), api.ErrKind) // neither is followed: what they lead to is no stream
	}
	for _, s := range []string{"9 0 R", "[9 0 R]", "[5 0 R 9 0 R]", "[9 0 R 7]"} {
		fails(t, contents(s), api.ErrNone)
	}
	fails(t, contents("[7 9 0 R]"), api.ErrKind)
	fails(t, put(contents("5 0 R"), 5, spoil), api.ErrText)
}

func TestStreams(t *testing.T) { // J2, F5, H2, I1: what is said of the data, of the operators and of what is painted
	told := func(value, data string) objects { return objects{5: value + mark + data} }
	made, err := filter.Make([]string{"ASCIIHexDecode", "RunLengthDecode"}, "BT /F 10 Tf (ab) Tj ET")
	if err != nil {
		t.Fatal(err)
	}
	reads(t, told("<< /Filter [/ASCIIHexDecode /RunLengthDecode] >>", made), plain)
	reads(t, told("<< /Filter /ASCIIHexDecode >>", "4254 4554>"), "0 0 600 800")
	for _, x := range []struct {
		value, data string
		want        error
	}{
		{"<< /Filter /FlateDecode >>", "", api.ErrFilter},
		{"<< /Filter 7 >>", "", api.ErrKind},
		{"<< /Filter /ASCIIHexDecode >>", "4254", api.ErrEnd},
		{"<< /Filter /ASCIIHexDecode >>", "x>", api.ErrText},
		{"<< >>", "7", api.ErrEnd},
		{"<< >>", "1 2 3 4 5 6 7 8 9 BT", api.ErrStack},
		{"<< >>", "[1", api.ErrEnd},
		{"<< >>", ")", api.ErrText},
		{"<< >>", strings.Repeat("q ", api.MaxOps+1), api.ErrMany},
		{"<< >>", "Q", api.ErrStack},
		{"<< >>", "ET", api.ErrStack},
		{"<< >>", "/G 10 Tf", api.ErrNone},
		{"<< >>", "(a) Tj", api.ErrNone},
		{"<< >>", "1 cm", api.ErrKind},
		{"<< >>", "BT 1000000 0 Td 1 0 Td", api.ErrBound},
		{"<< >>", "BT /F 10 Tf " + strings.Repeat("("+strings.Repeat("a", 200)+") Tj ", 6), api.ErrMany},
	} {
		fails(t, told(x.value, x.data), x.want)
	}
	blank := func(n int) string { return "<< >>" + mark + strings.Repeat(" ", n) }
	two := "<< /Contents [5 0 R 6 0 R] /Type /Page >>"
	reads(t, told("<< >>", strings.Repeat(" ", api.MaxData)), "0 0 600 800")
	reads(t, objects{3: two, 5: blank(api.MaxData - 1), 6: blank(0)}, "0 0 600 800")
	reads(t, objects{3: two, 5: blank(10000), 6: blank(9999)}, "0 0 600 800")
	fails(t, objects{3: two, 5: blank(api.MaxData), 6: blank(0)}, api.ErrMany)
	fails(t, objects{3: two, 5: blank(10000), 6: blank(10000)}, api.ErrMany)
	fails(t, objects{3: "<< /Contents [5 0 R 5 0 R 5 0 R] /Type /Page >>", 5: blank(api.MaxData)}, api.ErrMany)
}

func TestFirstError(t *testing.T) { // J1, J2, Z3: of a page what comes first, of the pages the first one's, and ahead of all what the tree says
	parts := []struct {
		name, good, bad string
		want            error
	}{
		{"MediaBox", "[0 0 1 1]", "[0 0 1]", api.ErrKind},
		{"Resources", "<< >>", "22 0 R", api.ErrText},
		{"Resources", "<< /Font << >> >>", "<< /Font 20 0 R >>", api.ErrCycle},
		{"Resources", "<< /Font << /F << >> >> >>", "<< /Font << /F << /ToUnicode 9 0 R >> >> >>", api.ErrNone},
		{"Contents", "5 0 R", "7", api.ErrKind},
		{"Contents", "5 0 R", "21 0 R", api.ErrFilter},
		{"Contents", "5 0 R", "23 0 R", api.ErrEnd},
		{"Contents", "5 0 R", "24 0 R", api.ErrStack},
	}
	page := func(change map[string]string) string {
		s := "<< /Type /Page"
		for _, n := range []string{"MediaBox", "Resources", "Contents"} {
			v := map[string]string{"MediaBox": "[0 0 1 1]", "Resources": "<< >>", "Contents": "5 0 R"}[n]
			if x, ok := change[n]; ok {
				v = x
			}
			s += " /" + n + " " + v
		}
		return s + " >>"
	}
	base := objects{
		2: "<< /Kids [3 0 R 6 0 R] /Type /Pages >>", 3: page(nil), 5: "<< >>" + mark + "BT ET", 6: page(nil),
		20: "20 0 R", 21: "<< /Filter /x >>" + mark, 22: spoil, 23: "<< >>" + mark + "Q 7", 24: "<< >>" + mark + "Q",
	}
	reads(t, base, "0 0 1 1 | 0 0 1 1")
	for i, x := range parts {
		one := map[string]string{x.name: x.bad}
		fails(t, put(base, 3, page(one)), x.want)
		fails(t, put(base, 6, page(one)), x.want)
		for _, y := range parts[i+1:] {
			if y.name != x.name {
				fails(t, put(base, 3, page(map[string]string{x.name: x.bad, y.name: y.bad})), x.want)
			}
		}
		for _, y := range parts {
			other := map[string]string{y.name: y.bad}
			fails(t, put(put(base, 3, page(one)), 6, page(other)), x.want)
			fails(t, put(put(base, 3, page(other)), 6, "<< /Type /x >>"), api.ErrKind)
			fails(t, put(put(base, 3, page(other)), 2, "<< /Kids [3 0 R 3 0 R] /Type /Pages >>"), api.ErrCycle)
		}
	}
	// In the tree, what is come to first.
	fails(t, put(put(base, 2, "<< /Kids [3 0 R 6 0 R 3 0 R] /Type /Pages >>"), 6, spoil), api.ErrText)
	fails(t, put(put(base, 2, "<< /Kids [3 0 R 3 0 R 6 0 R] /Type /Pages >>"), 6, spoil), api.ErrCycle)
	fails(t, put(put(base, 2, "<< /Kids [3 0 R 7 6 0 R] /Type /Pages >>"), 6, spoil), api.ErrKind)
	fails(t, put(put(base, 2, "<< /Kids 20 0 R /Type /Pages >>"), 3, spoil), api.ErrCycle)
}

// styleOf signs that are drawn.
func styleOf(r *rand.Rand) api.Style {
	x := api.Style{Wide: r.Intn(2) == 0}
	for _, c := range []rune{'a', 'b', ' ', 'é', '€', '😀', '(', 0, '\n', '\\', 0xfffd} {
		if r.Intn(3) > 0 {
			x.Signs += string(c)
			x.Widths = append(x.Widths, []int{r.Intn(1000), 0, 5000, r.Intn(5000)}[r.Intn(4)])
		}
	}
	return x
}

// specOf a file that may be.
func specOf(r *rand.Rand) api.Spec {
	var s api.Spec
	for range 1 + r.Intn(4) {
		s.Styles = append(s.Styles, styleOf(r))
	}
	for range r.Intn(api.MaxPages + 1) {
		var p []api.Run
		for range r.Intn(5) {
			x := api.Run{Font: r.Intn(len(s.Styles)), Size: []int{10000, r.Intn(50000), -r.Intn(50000), 1000000, -1000000, 0, 7}[r.Intn(7)]}
			x.At = api.Point{X: r.Intn(2000001) - 1000000, Y: r.Intn(2000001) - 1000000}
			l := []rune(s.Styles[x.Font].Signs)
			for range r.Intn(12) {
				if len(l) > 0 {
					x.Text += string(l[r.Intn(len(l))])
				}
			}
			p = append(p, x)
		}
		s.Pages = append(s.Pages, p)
	}
	for range r.Intn(4) {
		s.Filter = append(s.Filter, []string{"ASCIIHexDecode", "ASCII85Decode", "RunLengthDecode"}[r.Intn(3)])
	}
	return s
}

// written: a file of a spec has just the glyphs of its runs.
func written(t *testing.T, s api.Spec) {
	t.Helper()
	text, err := press.Build(s)
	if err != nil {
		t.Fatalf("Build(%.500s): %v", fmt.Sprint(s), err)
	}
	l, err := pages.Read(text)
	if err != nil || len(l) != len(s.Pages) {
		t.Fatalf("Read of %.500s: %d pages, %v, want %d", fmt.Sprint(s), len(l), err, len(s.Pages))
	}
	for i, p := range s.Pages {
		var want []api.Glyph
		for _, x := range p {
			g, err := press.Glyphs(s, x)
			if err != nil {
				t.Fatalf("Glyphs(%.500s, %v): %v", fmt.Sprint(s), x, err)
			}
			want = append(want, g...)
		}
		if l[i].Box != (api.Box{X1: 600000, Y1: 800000}) || !slices.Equal(l[i].Glyphs, want) {
			t.Errorf("page %d of %.500s: %v, want %v", i, fmt.Sprint(s), l[i], want)
		}
	}
}

func TestWritten(t *testing.T) { // W1, M2, M3, J1, J2
	r := rand.New(rand.NewSource(1))
	for range 500 {
		written(t, specOf(r))
	}
	written(t, api.Spec{})
	great := api.Style{Widths: make([]int, 200)}
	for i := range 200 {
		great.Signs += string(rune(0x1f600 + i))
		great.Widths[i] = 25 * i
	}
	for _, wide := range []bool{false, true} {
		great.Wide = wide
		l := []rune(great.Signs)
		if wide {
			l = l[100:]
		}
		x := api.Run{Font: 1, Size: 12345, At: api.Point{X: -5, Y: 5}, Text: string(l)}
		written(t, api.Spec{Styles: []api.Style{{}, great}, Pages: [][]api.Run{{x}, nil, {x, x}}, Filter: []string{"ASCII85Decode"}})
	}
}

func TestManyGlyphs(t *testing.T) { // W1, as far as a page may have so many
	x := api.Run{Size: 1000, Text: strings.Repeat("a", 200)}
	s := api.Spec{Styles: []api.Style{{Signs: "a", Widths: []int{500}}}, Pages: [][]api.Run{{x, x, x, x, x}, {x}}}
	written(t, s)
	s.Pages[0] = append(s.Pages[0], api.Run{Text: "a"})
	text, err := press.Build(s)
	if err != nil {
		t.Fatal(err)
	}
	refuses(t, text, api.ErrMany)
	far := api.Spec{Styles: []api.Style{{Signs: "a", Widths: []int{5000}}}, Pages: [][]api.Run{{{Size: 1000000, At: api.Point{X: 1}, Text: x.Text}}}}
	text, err = press.Build(far)
	if err != nil {
		t.Fatal(err)
	}
	refuses(t, text, api.ErrBound) // it ends where no number is
}

// updated: a file, behind which objects are laid.
func updated(t *testing.T, s string, all objects) string {
	t.Helper()
	var l []api.Object
	for _, n := range slices.Sorted(maps.Keys(all)) {
		l = append(l, object(t, n, all[n]))
	}
	s, err := file.Update(s, l)
	if err != nil {
		t.Fatalf("Update(%.300s): %v", fmt.Sprint(l), err)
	}
	return s
}

func TestLater(t *testing.T) { // W2
	s := laid(t, with(objects{2: "<< /Kids [3 0 R 6 0 R] /MediaBox [0 0 600 800] /Resources << /Font << /F 4 0 R >> >> /Type /Pages >>", 6: "<< /Contents 5 0 R /MediaBox [1 1 1 1] /Type /Page >>"}))
	two := plain + " | 1 1 1 1; a 0 0; b 5 0"
	gives(t, s, two)
	// What nothing leads to changes nothing.
	idle := updated(t, s, objects{40: "<< /Type /Page >>", 41: "41 0 R", 42: "<< /Filter /x >>" + mark + "x", 60: "[1 2]"})
	gives(t, idle, two)
	// What is laid later is read in its place, all others stay.
	for _, s := range []string{s, idle} {
		gives(t, updated(t, s, objects{6: "<< /Type /Page >>"}), plain+" | 0 0 600 800")
		gives(t, updated(t, s, objects{5: "<< >>" + mark + "BT /F 1 Tf (b) Tj"}), "0 0 600 800; b 0 0 | 1 1 1 1; b 0 0")
		gives(t, updated(t, s, objects{4: "<< /FirstChar 97 /Widths [1000] >>"}), "0 0 600 800; a 0 0; b 10 0 | 1 1 1 1; a 0 0; b 10 0")
		gives(t, updated(t, s, objects{3: "<< /Contents 7 0 R /Type /Page >>", 7: "<< >>" + mark}), "0 0 600 800 | 1 1 1 1; a 0 0; b 5 0")
		gives(t, updated(t, s, objects{1: "<< /Pages 6 0 R >>", 6: full("5 0 R")}), plain)
		refuses(t, updated(t, s, objects{6: "7"}), api.ErrKind)
		gives(t, updated(t, updated(t, s, objects{6: "7"}), objects{6: "<< /MediaBox [2 2 2 2] /Type /Page >>"}), plain+" | 2 2 2 2")
	}
}

func TestSpoiled(t *testing.T) { // Z1, Z3
	r := rand.New(rand.NewSource(2))
	s := laid(t, with(objects{2: "<< /Kids [3 0 R 6 0 R] /MediaBox [0 0 600 800] /Resources << /Font << /F 4 0 R >> >> /Type /Pages >>", 6: full("[5 0 R 5 0 R]")}))
	good := 0
	look := func(u string) {
		l, err := pages.Read(u)
		again, err2 := pages.Read(u)
		if _, is := err.(api.Errno); err != nil && (!is || len(l) != 0) || err != err2 || short(l) != short(again) {
			t.Fatalf("Read(%q): %s, %v, then %s, %v", u, short(l), err, short(again), err2)
		}
		if err == nil {
			good++
		}
	}
	const bytes = "0123456789 nf\nxR<>[]()%/"
	for range 20000 {
		b := []byte(s)
		for range 1 + r.Intn(3) {
			at := r.Intn(len(b))
			switch r.Intn(3) {
			case 0:
				b[at] = bytes[r.Intn(len(bytes))]
			case 1:
				b = slices.Delete(b, at, at+1)
			case 2:
				b = slices.Insert(b, at, bytes[r.Intn(len(bytes))])
			}
		}
		look(string(b))
	}
	for end := range len(s) {
		look(s[:end])
	}
	if good < 1000 || good > 15000 {
		t.Errorf("%d of these files can be read", good)
	}
}

func TestFresh(t *testing.T) { // Z2
	s := laid(t, with(objects{2: "<< /Kids [3 0 R 6 0 R] /MediaBox [0 0 600 800] /Resources << /Font << /F 4 0 R >> >> /Type /Pages >>", 6: "<< /Contents 5 0 R /Type /Page >>"}))
	want := plain + " | " + plain
	l, err := pages.Read(s)
	if err != nil || short(l) != want {
		t.Fatalf("Read(%q): %s, %v", s, short(l), err)
	}
	first := l[0].Glyphs[:cap(l[0].Glyphs)]
	for i := range first {
		first[i] = api.Glyph{Text: "spoilt"}
	}
	if got := short(l[1:]); got != plain {
		t.Errorf("two pages share a list: %s", got)
	}
	l[1] = api.Page{}
	gives(t, s, want)
}
