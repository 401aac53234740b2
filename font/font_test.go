package font_test

import (
	"fmt"
	"maps"
	"math"
	"math/rand"
	"reflect"
	"slices"
	"strings"
	"testing"
	"unicode/utf8"

	"foliowright/api"
	"foliowright/cmap"
	"foliowright/file"
	"foliowright/font"
	"foliowright/value"
)

func num(n int) api.Value                   { return api.Value{Kind: api.Num, N: n} }
func whole(n int) api.Value                 { return num(n * api.Whole) }
func str(s string) api.Value                { return api.Value{Kind: api.Str, S: s} }
func name(s string) api.Value               { return api.Value{Kind: api.Name, S: s} }
func ref(n int) api.Value                   { return api.Value{Kind: api.Ref, N: n} }
func list(l ...api.Value) api.Value         { return api.Value{Kind: api.List, L: l} }
func field(n string, v api.Value) api.Field { return api.Field{Name: n, V: v} }
func flag() api.Value                       { return api.Value{Kind: api.Flag, N: 1} }

// dict: the fields may be handed in in any order.
func dict(l ...api.Field) api.Value {
	slices.SortFunc(l, func(a, b api.Field) int { return strings.Compare(a.Name, b.Name) })
	return api.Value{Kind: api.Dict, F: l}
}

// wholes: whole numbers as a list.
func wholes(l ...int) api.Value {
	v := list()
	for _, n := range l {
		v.L = append(v.L, whole(n))
	}
	return v
}

// many: a list of so many widths, all 7 wide.
func many(n int) api.Value { return wholes(slices.Repeat([]int{7}, n)...) }

// Objects of the files below that others lead to, or that lead nowhere.
const (
	absent = 50 // it isn't there
	cycle  = 51 // it leads to itself
	broken = 52 // it can't be read
	solid  = 53 // it is no stream
)

// with: a file of these objects, and of those that lead nowhere.
func with(t *testing.T, l ...api.Object) *file.File {
	t.Helper()
	l = append(l, plain(cycle, ref(cycle)), plain(broken, name("broken")), plain(solid, whole(1)))
	s, err := file.Build(l, 1)
	if err != nil {
		t.Fatalf("Build(%.300s): %v", fmt.Sprint(l), err)
	}
	f, err := file.Read(strings.Replace(s, "/broken", ")broken", 1))
	if err != nil {
		t.Fatalf("Read of %.300s: %v", fmt.Sprint(l), err)
	}
	return f
}

func plain(n int, v api.Value) api.Object { return api.Object{N: n, V: v} }
func stream(n int, data string, l ...api.Field) api.Object {
	return api.Object{N: n, V: dict(l...), Stream: true, Data: data}
}

// program that tells spans.
func program(t *testing.T, wide bool, l ...api.Span) string {
	t.Helper()
	s, err := cmap.Write(l, wide)
	if err != nil {
		t.Fatalf("Write(%v, %v): %v", l, wide, err)
	}
	return s
}

// simple, wide: a font's dictionary of these fields.
func simple(l ...api.Field) api.Value { return dict(append(l, field("Subtype", name("Type1")))...) }
func wide(l ...api.Field) api.Value   { return dict(append(l, field("Subtype", name("Type0")))...) }

// reads: that font is read, whether its value is handed in or is led to.
func reads(t *testing.T, f *file.File, v api.Value, want api.Font) {
	t.Helper()
	ahead := value.Copy(v)
	x, err := font.Read(f, v)
	if err != nil || !same(x, want) {
		t.Errorf("Read(%.400s): %.300s, %v, want %.300s", fmt.Sprint(v), fmt.Sprint(x), err, fmt.Sprint(want))
	}
	if !value.Alike(v, ahead) {
		t.Errorf("Read wrote into %.300s", fmt.Sprint(ahead))
	}
}

// noRead: Read tells this error, and nothing besides.
func noRead(t *testing.T, f *file.File, v api.Value, want error) {
	t.Helper()
	x, err := font.Read(f, v)
	if err != want || !reflect.DeepEqual(x, api.Font{}) {
		t.Errorf("Read(%.400s): %.300s, %v, want %v alone", fmt.Sprint(v), fmt.Sprint(x), err, want)
	}
}

// same: are two fonts the same? A map that has nothing is as none.
func same(a, b api.Font) bool {
	return a.Wide == b.Wide && a.Miss == b.Miss && maps.Equal(a.Widths, b.Widths) && maps.Equal(a.Names, b.Names) && slices.Equal(a.Codes, b.Codes)
}

// stands: what a name stands for.
func stands(t *testing.T, name, want string) {
	t.Helper()
	if s, ok := font.Glyph(name); s != want || !ok {
		t.Errorf("Glyph(%q): %q, %v, want %q", name, s, ok, want)
	}
}

// standsNot: a name stands for nothing.
func standsNot(t *testing.T, name string) {
	t.Helper()
	if s, ok := font.Glyph(name); s != "" || ok {
		t.Errorf("Glyph(%q): %q, %v, want nothing", name, s, ok)
	}
}

func TestGlyph(t *testing.T) { // G1
	const letters = "abcdefghijklmnopqrstuvwxyzABCDEFGHIJKLMNOPQRSTUVWXYZ"
	for i := range 256 {
		s := string([]byte{byte(i)})
		if strings.Contains(letters, s) {
			stands(t, s, s)
		} else {
			standsNot(t, s)
		}
	}
	words := map[string]string{"space": " ", "period": ".", "comma": ",", "hyphen": "-", "colon": ":",
		"zero": "0", "one": "1", "two": "2", "three": "3", "four": "4", "five": "5", "six": "6", "seven": "7", "eight": "8", "nine": "9"}
	for w, s := range words {
		stands(t, w, s)
		for _, near := range []string{w + "s", w + " ", " " + w, "/" + w, w + "\x00", w[1:], w[:len(w)-1], strings.ToUpper(w), strings.ToUpper(w[:1]) + w[1:], w + w} {
			standsNot(t, near)
		}
	}
	for _, s := range []string{"", "ten", "minus", "dash", "semicolon", "aa", "aB", "a ", " a", "é", "Æ", "aacute", ".notdef", "a.alt"} {
		standsNot(t, s)
	}
}

func TestGlyphOfNumber(t *testing.T) { // G1
	for n := range 1 << 16 {
		s := fmt.Sprintf("uni%04X", n)
		if 0xD800 <= n && n <= 0xDFFF {
			standsNot(t, s)
		} else {
			stands(t, s, string(rune(n)))
		}
	}
	stands(t, "uniD7FF", "\uD7FF")
	standsNot(t, "uniD800")
	standsNot(t, "uniDFFF")
	stands(t, "uniE000", "\uE000")
	stands(t, "uni0000", "\x00")
	stands(t, "uni20AC", "€")
	for _, s := range []string{
		"uni", "uni1", "uni004", "uni00411", "uni00410042", "uni 0041", "uni0041 ", "uni00e9", "uniabcd", "uni00Ea", "uni00G0", "unig000", "uni00:0", "uni00@0", "uni00/0",
		"Uni0041", "UNI0041", "unI0041", "un0041", "u0041", "0041", "ni0041", "xuni0041", "uni+041", "uni-041", "uni0x41", "uni0_41", "uni_041", "uni.041", "uni\x000041", "uniéé", "uni１",
	} {
		standsNot(t, s)
	}
}

func TestReadSimple(t *testing.T) { // G2
	f := with(t, stream(9, program(t, false, api.Span{From: 3, To: 5, Text: "fi"})))
	reads(t, f, simple(), api.Font{})
	reads(t, f, dict(), api.Font{})
	reads(t, f, simple(
		field("MissingWidth", whole(333)),
		field("FirstChar", whole(97)), field("Widths", wholes(500, 0, 250)),
		field("Encoding", dict(field("Differences", list(whole(65), name("a"), name("space"), whole(7), name("nothing"))))),
		field("ToUnicode", ref(9)),
		field("W", list(flag())), // it is no Wide font's
	), api.Font{
		Miss:   333,
		Widths: map[int]int{97: 500, 98: 0, 99: 250},
		Names:  map[int]string{65: "a", 66: "space", 7: "nothing"},
		Codes:  []api.Span{{From: 3, To: 5, Text: "fi"}},
	})
}

func TestReadWide(t *testing.T) { // G2
	f := with(t, stream(9, program(t, true, api.Span{From: 3, To: 500, Text: "a"})))
	reads(t, f, wide(), api.Font{Wide: true})
	reads(t, f, wide(
		field("MissingWidth", whole(1000)),
		field("W", list(whole(0), wholes(500, 600), whole(65000), list(), whole(300), wholes(1))),
		field("ToUnicode", ref(9)),
		// What is told of codes of one byte isn't looked at.
		field("FirstChar", flag()), field("Widths", flag()), field("Encoding", dict(field("Differences", flag()))),
	), api.Font{
		Wide:   true,
		Miss:   1000,
		Widths: map[int]int{0: 500, 1: 600, 300: 1},
		Codes:  []api.Span{{From: 3, To: 500, Text: "a"}},
	})
	x, err := font.Read(f, wide(field("Encoding", dict(field("Differences", list(name("a")))))))
	if err != nil || x.Names != nil {
		t.Errorf("a Wide font has names: %v, %v", x, err)
	}
	for _, v := range []api.Value{name("Type1"), name("Type00"), name("type0"), name("Type"), str("Type0"), {}, flag(), list(name("Type0"))} {
		reads(t, f, dict(field("Subtype", v), field("W", list(whole(0), wholes(5)))), api.Font{})
	}
}

func TestReadKind(t *testing.T) { // G2
	f := with(t, plain(2, ref(3)), plain(3, wide(field("MissingWidth", whole(4)))), stream(4, "", field("MissingWidth", whole(5))), plain(5, list()))
	reads(t, f, ref(2), api.Font{Wide: true, Miss: 4})
	reads(t, f, ref(3), api.Font{Wide: true, Miss: 4})
	reads(t, f, ref(4), api.Font{Miss: 5})
	for _, v := range []api.Value{{}, flag(), num(0), str(""), name("Type0"), list(), ref(5), ref(absent), ref(solid), {Kind: 8}, {Kind: -1}, {Kind: api.List, F: simple().F}} {
		noRead(t, f, v, api.ErrKind)
	}
	noRead(t, f, ref(cycle), api.ErrCycle)
	noRead(t, f, ref(broken), api.ErrText)
	noRead(t, f, ref(0), api.ErrKind)
	noRead(t, f, ref(math.MinInt), api.ErrKind)
}

func TestMissing(t *testing.T) { // G2
	f := with(t, plain(2, num(250999)), plain(3, ref(2)), plain(4, ref(3)))
	for _, of := range []func(...api.Field) api.Value{simple, wide} {
		x, _ := font.Read(f, of())
		for _, c := range []struct {
			v    api.Value
			want int
		}{
			{whole(400), 400}, {num(0), 0}, {num(999), 0}, {num(1000), 1}, {num(1999), 1}, {num(-1), 0}, {num(-999), 0}, {num(-1000), -1}, {num(-1999), -1},
			{num(api.MaxFix), 1000000}, {num(-api.MaxFix), -1000000}, {ref(2), 250}, {ref(4), 250},
			{api.Value{}, 0}, {flag(), 0}, {str("7"), 0}, {name("a"), 0}, {wholes(7), 0}, {dict(), 0}, {ref(absent), 0},
		} {
			x.Miss = c.want
			reads(t, f, of(field("MissingWidth", c.v)), x)
		}
		// It is told ahead of all that follows.
		noRead(t, f, of(field("MissingWidth", ref(cycle)), field("Widths", flag()), field("W", flag())), api.ErrCycle)
		noRead(t, f, of(field("MissingWidth", ref(broken)), field("Widths", ref(cycle)), field("W", ref(cycle))), api.ErrText)
	}
}

// placed: a font of one byte, and one of two, whose widths are these from a code on, as fields have them.
func placed(code, l api.Value) []api.Value {
	return []api.Value{simple(field("FirstChar", code), field("Widths", l)), wide(field("W", list(code, l)))}
}

func TestWidths(t *testing.T) { // G2
	f := with(t, plain(2, num(250999)), plain(3, ref(2)), plain(4, list(ref(3), num(-1), ref(2))), plain(5, ref(4)))
	for _, c := range []struct {
		code int
		l    api.Value
		want map[int]int
	}{
		{0, list(), nil},
		{0, wholes(1), map[int]int{0: 1}},
		{5, wholes(1, 2, 3), map[int]int{5: 1, 6: 2, 7: 3}},
		{254, wholes(1, 2, 3), map[int]int{254: 1, 255: 2, 256: 3}},
		{1, list(num(1), num(999), num(1000), num(1001), num(500500)), map[int]int{1: 0, 2: 0, 3: 1, 4: 1, 5: 500}},
		{1, list(num(-1), num(-999), num(-1000), num(-1999), num(-500500)), map[int]int{1: 0, 2: 0, 3: -1, 4: -1, 5: -500}},
		{1, list(num(api.MaxFix), num(-api.MaxFix)), map[int]int{1: 1000000, 2: -1000000}},
		{7, list(ref(2), ref(3), whole(1)), map[int]int{7: 250, 8: 250, 9: 1}},
		{7, ref(4), map[int]int{7: 250, 8: 0, 9: 250}},
		{7, ref(5), map[int]int{7: 250, 8: 0, 9: 250}},
		{api.MaxCode, wholes(9), map[int]int{api.MaxCode: 9}},
		{api.MaxCode + 1, list(), nil},
		{1000000, list(), nil},
	} {
		l := placed(whole(c.code), c.l)
		reads(t, f, l[0], api.Font{Widths: c.want})
		reads(t, f, l[1], api.Font{Wide: true, Widths: c.want})
	}
	reads(t, f, simple(field("FirstChar", flag())), api.Font{}) // without Widths it isn't asked for
	reads(t, f, simple(field("FirstChar", ref(cycle))), api.Font{})
}

func TestWidthErrors(t *testing.T) { // G2
	f := with(t, plain(2, list(name("a"))), plain(3, name("a")))
	for _, c := range []struct {
		code, l api.Value
		want    error
	}{
		// A width that is none.
		{whole(1), list(whole(1), api.Value{}), api.ErrKind},
		{whole(1), list(flag()), api.ErrKind},
		{whole(1), list(str("1"), ref(cycle)), api.ErrKind},
		{whole(1), list(wholes(1)), api.ErrKind},
		{whole(1), list(ref(3)), api.ErrKind},
		{whole(1), list(ref(absent)), api.ErrKind},
		{whole(1), list(ref(cycle), flag()), api.ErrCycle},
		{whole(1), list(whole(1), ref(broken)), api.ErrText},
		{whole(1), ref(2), api.ErrKind},
		// A code that is too great.
		{whole(api.MaxCode), wholes(1, 1), api.ErrMany},
		{whole(api.MaxCode + 1), wholes(1), api.ErrMany},
		{whole(1000000), wholes(1), api.ErrMany},
		{whole(api.MaxCode), list(whole(1), whole(1), flag()), api.ErrMany},
		{whole(api.MaxCode), list(flag(), whole(1)), api.ErrKind},
		{whole(api.MaxCode), list(whole(1), flag()), api.ErrKind}, // named ahead of its code
		{whole(api.MaxCode), list(whole(1), ref(cycle)), api.ErrCycle},
		// No list.
		{whole(1), api.Value{}, api.ErrKind},
		{whole(1), flag(), api.ErrKind},
		{whole(1), whole(1), api.ErrKind},
		{whole(1), dict(), api.ErrKind},
		{whole(1), ref(3), api.ErrKind},
		{whole(1), ref(absent), api.ErrKind},
		{whole(1), ref(cycle), api.ErrCycle},
		{whole(1), ref(broken), api.ErrText},
		// No code.
		{num(1), list(), api.ErrKind},
		{num(999), list(), api.ErrKind},
		{num(1001), list(), api.ErrKind},
		{num(-1), list(), api.ErrKind},
		{num(-1000), list(), api.ErrKind},
		{num(math.MinInt), list(whole(1)), api.ErrKind},
		{api.Value{}, list(), api.ErrKind},
		{str("1"), list(whole(1)), api.ErrKind},
		{name("a"), list(), api.ErrKind},
		{list(whole(1)), list(), api.ErrKind},
		{ref(3), list(), api.ErrKind},
		{ref(absent), list(), api.ErrKind},
		{num(1), list(ref(cycle)), api.ErrKind},
	} {
		for _, v := range placed(c.code, c.l) {
			noRead(t, f, v, c.want)
		}
	}
	noRead(t, f, simple(field("Widths", list())), api.ErrKind)
	noRead(t, f, simple(field("Widths", wholes(1))), api.ErrKind)
}

func TestFirst(t *testing.T) { // G2
	f := with(t, plain(2, whole(9)), plain(3, ref(2)))
	reads(t, f, simple(field("FirstChar", ref(3)), field("Widths", wholes(5))), api.Font{Widths: map[int]int{9: 5}})
	noRead(t, f, simple(field("FirstChar", ref(cycle)), field("Widths", wholes(5))), api.ErrCycle)
	noRead(t, f, simple(field("FirstChar", ref(broken)), field("Widths", list(flag()))), api.ErrText)
	noRead(t, f, simple(field("FirstChar", ref(cycle)), field("Widths", flag())), api.ErrKind)
}

func TestW(t *testing.T) { // G2
	f := with(t, plain(2, whole(9)), plain(3, list(ref(2), whole(1))), plain(4, list(whole(6), ref(3))), plain(5, ref(4)))
	reads(t, f, wide(field("W", ref(5))), api.Font{Wide: true, Widths: map[int]int{6: 9, 7: 1}})
	reads(t, f, wide(field("W", list())), api.Font{Wide: true})
	// A code of which is told once more has the later width.
	reads(t, f, wide(field("W", list(whole(5), wholes(1, 2, 3), whole(6), wholes(9)))), api.Font{Wide: true, Widths: map[int]int{5: 1, 6: 9, 7: 3}})
	for _, v := range []api.Value{{}, flag(), whole(1), name("a"), dict(), ref(2), ref(absent)} {
		noRead(t, f, wide(field("W", v)), api.ErrKind)
	}
	noRead(t, f, wide(field("W", ref(cycle))), api.ErrCycle)
	noRead(t, f, wide(field("W", ref(broken))), api.ErrText)
	// An odd one, ahead of what is wrong in it.
	noRead(t, f, wide(field("W", wholes(1))), api.ErrKind)
	noRead(t, f, wide(field("W", list(wholes(1)))), api.ErrKind)
	noRead(t, f, wide(field("W", list(whole(1), wholes(1), whole(2)))), api.ErrKind)
	noRead(t, f, wide(field("W", list(whole(1), ref(cycle), whole(2)))), api.ErrKind)
	noRead(t, f, wide(field("W", list(whole(api.MaxCode+1), wholes(1), whole(2)))), api.ErrKind)
	// Another manner of telling widths is none.
	noRead(t, f, wide(field("W", list(whole(1), whole(5), whole(500)))), api.ErrKind)
	noRead(t, f, wide(field("W", list(whole(1), whole(5), whole(500), whole(9)))), api.ErrKind)
	// Codes aren't followed, whatever stands there.
	noRead(t, f, wide(field("W", list(ref(2), wholes(1)))), api.ErrKind)
	noRead(t, f, wide(field("W", list(ref(cycle), wholes(1)))), api.ErrKind)
	noRead(t, f, wide(field("W", list(whole(1), wholes(1), ref(2), wholes(1)))), api.ErrKind)
	// Of several things the first one's.
	noRead(t, f, wide(field("W", list(whole(1), ref(broken), whole(1), ref(cycle)))), api.ErrText)
	noRead(t, f, wide(field("W", list(whole(api.MaxCode+1), wholes(1), flag(), list()))), api.ErrMany)
	noRead(t, f, wide(field("W", list(flag(), ref(cycle)))), api.ErrKind)
}

func TestManyWidths(t *testing.T) { // G2: more than MaxParts are too many, if they are there already
	f := with(t, plain(2, many(150)), plain(3, many(151)), plain(4, many(152)))
	full := func(n int) map[int]int {
		m := map[int]int{}
		for i := range n {
			m[i] = 7
		}
		return m
	}
	for _, n := range []int{299, api.MaxParts, api.MaxParts + 1} {
		l := placed(whole(0), many(n))
		reads(t, f, l[0], api.Font{Widths: full(n)})
		reads(t, f, l[1], api.Font{Wide: true, Widths: full(n)})
	}
	for _, n := range []int{api.MaxParts + 2, api.MaxParts + 3, 2000} {
		for _, v := range placed(whole(0), many(n)) {
			noRead(t, f, v, api.ErrMany)
		}
	}
	// Also of several lists together, as a file has them.
	for _, c := range []struct {
		a, b int
		want error
	}{{2, 2, nil}, {2, 3, nil}, {3, 3, api.ErrMany}, {2, 4, api.ErrMany}, {4, 2, api.ErrMany}} {
		v := wide(field("W", list(whole(0), ref(c.a), whole(1000), ref(c.b))))
		if c.want != nil {
			noRead(t, f, v, c.want)
			continue
		}
		if x, err := font.Read(f, v); err != nil || len(x.Widths) != 150+148+c.b || x.Widths[1000] != 7 {
			t.Errorf("lists %d and %d: %d widths, %v", c.a, c.b, len(x.Widths), err)
		}
	}
	// What is there already is counted, not what was told.
	again := wide(field("W", list(whole(0), many(200), whole(0), many(200), whole(100), many(201))))
	reads(t, f, again, api.Font{Wide: true, Widths: full(301)})
	again.F[1].V.L = append(again.F[1].V.L, whole(0), many(1))
	noRead(t, f, again, api.ErrMany)
	// What is wrong with a width itself is told ahead of that.
	for _, v := range placed(whole(0), list(append(many(301).L, flag())...)) {
		noRead(t, f, v, api.ErrKind)
	}
	for _, v := range placed(whole(0), list(append(many(302).L, flag())...)) {
		noRead(t, f, v, api.ErrMany)
	}
}

// differences: a font's dictionary whose Encoding has these.
func differences(v api.Value) api.Value {
	return simple(field("Encoding", dict(field("Differences", v))))
}

func TestDifferences(t *testing.T) { // G2
	f := with(t)
	a, b, c := name("a"), name("b"), name("c")
	for _, x := range []struct {
		l    api.Value
		want map[int]string
	}{
		{list(), nil},
		{list(a), map[int]string{0: "a"}},
		{list(a, b, c), map[int]string{0: "a", 1: "b", 2: "c"}},
		{list(whole(65), a, b), map[int]string{65: "a", 66: "b"}},
		{list(a, whole(65), b, c), map[int]string{0: "a", 65: "b", 66: "c"}},
		{list(whole(9), a, whole(5), b, c), map[int]string{9: "a", 5: "b", 6: "c"}},
		{list(whole(9), whole(5), a), map[int]string{5: "a"}},
		{list(a, whole(5)), map[int]string{0: "a"}},
		{list(whole(5)), nil},
		{list(num(0), a), map[int]string{0: "a"}},
		{list(whole(254), a, b, c), map[int]string{254: "a", 255: "b", 0: "c"}},
		{list(whole(255), a), map[int]string{255: "a"}},
		{list(whole(255), a, b), map[int]string{255: "a", 0: "b"}},
		{list(whole(256), a), map[int]string{0: "a"}},
		{list(whole(257), a, b), map[int]string{1: "a", 2: "b"}},
		{list(whole(511), a, b), map[int]string{255: "a", 0: "b"}},
		{list(whole(512), a), map[int]string{0: "a"}},
		{list(num(api.MaxFix), a), map[int]string{1000000 % 256: "a"}},
		{list(whole(7), a, whole(7), b), map[int]string{7: "b"}},
		{list(whole(7), a, whole(263), b), map[int]string{7: "b"}},
		{list(whole(3), name("no such sign"), name("uniD800")), map[int]string{3: "no such sign", 4: "uniD800"}},
	} {
		reads(t, f, differences(x.l), api.Font{Names: x.want})
	}
	// Names go round: the later ones stand.
	round := list()
	names := map[int]string{}
	for i := range 299 {
		s := fmt.Sprint("n", i)
		round.L = append(round.L, name(s))
		names[i%256] = s
	}
	reads(t, f, differences(round), api.Font{Names: names})
}

func TestDifferencesErrors(t *testing.T) { // G2
	f := with(t, plain(2, whole(5)), plain(3, name("a")), plain(4, list(whole(5), name("a"))), plain(5, ref(4)), plain(6, dict(field("Differences", ref(5)))), plain(7, ref(6)))
	want := api.Font{Names: map[int]string{5: "a"}}
	reads(t, f, differences(ref(5)), want)
	reads(t, f, simple(field("Encoding", ref(6))), want)
	reads(t, f, simple(field("Encoding", ref(7))), want)
	// What is no dictionary tells no names.
	for _, v := range []api.Value{{}, flag(), whole(1), name("WinAnsiEncoding"), str("a"), list(name("a")), dict(), dict(field("BaseEncoding", flag())), ref(3), ref(absent), {Kind: api.List, F: dict(field("Differences", list(name("a")))).F}} {
		reads(t, f, simple(field("Encoding", v)), api.Font{})
	}
	noRead(t, f, simple(field("Encoding", ref(cycle))), api.ErrCycle)
	noRead(t, f, simple(field("Encoding", ref(broken))), api.ErrText)
	for _, v := range []api.Value{{}, flag(), whole(1), name("a"), str("a"), dict(), ref(3), ref(absent)} {
		noRead(t, f, differences(v), api.ErrKind)
	}
	noRead(t, f, differences(ref(cycle)), api.ErrCycle)
	noRead(t, f, differences(ref(broken)), api.ErrText)
	for _, v := range []api.Value{{}, flag(), num(1), num(999), num(1500), num(-1), whole(-1), num(math.MinInt), str("a"), list(), list(name("a")), dict(), {Kind: 9},
		ref(2), ref(3), ref(absent), ref(cycle), ref(broken)} { // none of them is followed
		noRead(t, f, differences(list(v)), api.ErrKind)
		noRead(t, f, differences(list(whole(1), v)), api.ErrKind)
		noRead(t, f, differences(list(whole(1), name("a"), v)), api.ErrKind)
	}
}

func TestCodes(t *testing.T) { // G2
	one, two := api.Span{From: 65, To: 70, Text: "é"}, api.Span{From: 80, To: 80, Text: "fi"}
	hex := field("Filter", name("ASCIIHexDecode"))
	f := with(t,
		stream(2, program(t, false, one, two)), stream(3, program(t, true, one, two)), stream(4, program(t, false)), stream(5, program(t, true)),
		stream(6, ""), stream(7, "31 20>", hex), stream(8, "1 beginbfchar <41> <0041> endbfchar"), stream(10, "1 beginbfchar <41> <00"),
		stream(11, "1 beginbfchar <41> <D800> endbfchar"), stream(12, "2 beginbfchar <41> <> endbfchar"), stream(13, "31", hex), stream(14, "x", field("Filter", name("x"))),
		stream(15, "x", field("Filter", flag())), plain(16, ref(2)), plain(17, dict()))
	both := []api.Span{one, two}
	for _, c := range []struct {
		n         int
		slim, fat []api.Span
		of1, of2  error
	}{
		{2, both, nil, nil, api.ErrShape},
		{3, nil, both, api.ErrShape, nil},
		{4, nil, nil, nil, nil}, // without spans, codes of any number of bytes
		{5, nil, nil, nil, nil},
		{6, nil, nil, nil, nil},
		{7, nil, nil, nil, nil},
		{8, []api.Span{{From: 0x41, To: 0x41, Text: "A"}}, nil, nil, api.ErrShape},
		// What Data and Parse say.
		{10, nil, nil, api.ErrEnd, api.ErrEnd},
		{11, nil, nil, api.ErrText, api.ErrText},
		{12, nil, nil, api.ErrShape, api.ErrShape},
		{13, nil, nil, api.ErrEnd, api.ErrEnd},
		{14, nil, nil, api.ErrFilter, api.ErrFilter},
		{15, nil, nil, api.ErrKind, api.ErrKind},
		{16, nil, nil, api.ErrKind, api.ErrKind}, // it isn't followed
		{17, nil, nil, api.ErrKind, api.ErrKind},
		{solid, nil, nil, api.ErrKind, api.ErrKind},
		{absent, nil, nil, api.ErrNone, api.ErrNone},
		{cycle, nil, nil, api.ErrKind, api.ErrKind},
		{broken, nil, nil, api.ErrText, api.ErrText},
	} {
		code := field("ToUnicode", ref(c.n))
		if c.of1 != nil {
			noRead(t, f, simple(code), c.of1)
		} else {
			reads(t, f, simple(code), api.Font{Codes: c.slim})
		}
		if c.of2 != nil {
			noRead(t, f, wide(code), c.of2)
		} else {
			reads(t, f, wide(code), api.Font{Wide: true, Codes: c.fat})
		}
	}
	for _, v := range []api.Value{{}, flag(), whole(2), str("a"), name("Identity-H"), list(ref(2)), dict()} {
		noRead(t, f, simple(field("ToUnicode", v)), api.ErrKind)
		noRead(t, f, wide(field("ToUnicode", v)), api.ErrKind)
	}
}

func TestOrder(t *testing.T) { // G2, Z3: of several things the first one's
	f := with(t, stream(2, "1 beginbfchar <41> <00"))
	miss, widths, first := field("MissingWidth", ref(broken)), field("Widths", wholes(1)), field("FirstChar", whole(api.MaxCode+1))
	encoding, codes := field("Encoding", ref(cycle)), field("ToUnicode", ref(2))
	noRead(t, f, simple(miss, widths, first, encoding, codes), api.ErrText)
	noRead(t, f, simple(widths, first, encoding, codes), api.ErrMany)
	noRead(t, f, simple(encoding, codes), api.ErrCycle)
	noRead(t, f, simple(codes), api.ErrEnd)
	noRead(t, f, wide(miss, field("W", list(whole(api.MaxCode+1), wholes(1))), codes), api.ErrText)
	noRead(t, f, wide(field("W", list(whole(api.MaxCode+1), wholes(1))), codes), api.ErrMany)
	noRead(t, f, wide(encoding, codes), api.ErrEnd)
}

func TestSubtypeNotFollowed(t *testing.T) { // G2
	f := with(t, plain(2, name("Type0")))
	for _, n := range []int{2, cycle, broken, absent} {
		reads(t, f, dict(field("Subtype", ref(n)), field("FirstChar", whole(1)), field("Widths", wholes(5)), field("W", flag())), api.Font{Widths: map[int]int{1: 5}})
	}
}

// signs: those of a string.
func signs(t *testing.T, x api.Font, s string, want ...api.Sign) {
	t.Helper()
	l, err := font.Signs(x, s)
	if err != nil || !slices.Equal(l, want) {
		t.Errorf("Signs(%.300s, %q): %+v, %v, want %+v", fmt.Sprint(x), s, l, err, want)
	}
}

func TestSigns(t *testing.T) { // G3
	signs(t, api.Font{}, "")
	signs(t, api.Font{}, "a~\x1f \x7f\xff", api.Sign{Code: 'a', Text: "a"}, api.Sign{Code: '~', Text: "~"}, api.Sign{Code: 31}, api.Sign{Code: 32, Text: " "}, api.Sign{Code: 127}, api.Sign{Code: 255})
	x := api.Font{
		Widths: map[int]int{'a': 500, 'b': 0, 'c': -3, 255: 9},
		Miss:   77,
		Names:  map[int]string{'a': "uni20AC", 'b': "none", 'c': "c", 'd': "", 'e': "uniD800", 200: "nine", 'x': "y"},
		Codes:  []api.Span{{From: 'c', To: 'c', Text: "fi"}, {From: 'x', To: 'z', Text: "x\U0001F600"}, {From: 250, To: 255, Text: "é"}},
	}
	signs(t, x, "abc", api.Sign{Code: 'a', Width: 500, Text: "€"}, api.Sign{Code: 'b'}, api.Sign{Code: 'c', Width: -3, Text: "fi"})
	signs(t, x, "def", api.Sign{Code: 'd', Width: 77}, api.Sign{Code: 'e', Width: 77}, api.Sign{Code: 'f', Width: 77, Text: "f"})
	signs(t, x, "xz\xc8", api.Sign{Code: 'x', Width: 77, Text: "x\U0001F600"}, api.Sign{Code: 'z', Width: 77, Text: "x\U0001F602"}, api.Sign{Code: 200, Width: 77, Text: "9"})
	signs(t, x, "\xff\xc9\x00", api.Sign{Code: 255, Width: 9, Text: "î"}, api.Sign{Code: 201, Width: 77}, api.Sign{Code: 0, Width: 77})
}

func TestEachByte(t *testing.T) { // G3
	for code := range 256 {
		want := api.Sign{Code: code}
		if 32 <= code && code <= 126 {
			want.Text = string(rune(code))
		}
		signs(t, api.Font{}, string([]byte{byte(code)}), want)
		want.Text = "A"
		signs(t, api.Font{Names: map[int]string{code: "A"}}, string([]byte{byte(code)}), want)
		want.Text = ""
		signs(t, api.Font{Names: map[int]string{code: "no such sign"}}, string([]byte{byte(code)}), want)
	}
}

func TestWideSigns(t *testing.T) { // G3
	x := api.Font{
		Wide:   true,
		Widths: map[int]int{'a': 500, 0x6162: 600, api.MaxCode: 8},
		Miss:   1000,
		Names:  map[int]string{'a': "A", 'b': "B"}, // a Wide font has no use for them
		Codes:  []api.Span{{From: 0x6162, To: api.MaxCode, Text: "a"}},
	}
	signs(t, x, "")
	signs(t, x, "\x00a\x00b", api.Sign{Code: 'a', Width: 500}, api.Sign{Code: 'b', Width: 1000})
	signs(t, x, "ab", api.Sign{Code: 0x6162, Width: 600, Text: "a"})
	signs(t, x, "ac\xff\xff\x00\x00", api.Sign{Code: 0x6163, Width: 1000, Text: "b"}, api.Sign{Code: api.MaxCode, Width: 8, Text: string(rune('a' + api.MaxCode - 0x6162))}, api.Sign{Code: 0, Width: 1000})
	signs(t, api.Font{Wide: true}, "\x00a", api.Sign{Code: 'a'})
	for _, s := range []string{"a", "abc", "\x00a\x00", strings.Repeat("ab", 500) + "a"} {
		if l, err := font.Signs(x, s); len(l) != 0 || err != api.ErrText {
			t.Errorf("Signs(%q): %v, %v, want ErrText alone", s, l, err)
		}
		x.Wide = false
		if l, err := font.Signs(x, s); len(l) != len(s) || err != nil {
			t.Errorf("Signs(%q) of bytes: %d, %v", s, len(l), err)
		}
		x.Wide = true
	}
}

func TestOddSpans(t *testing.T) { // Z1: whatever a font has, nothing panics
	for _, l := range [][]api.Span{
		{{From: math.MinInt, To: math.MaxInt, Text: "a"}}, {{From: math.MinInt, To: math.MaxInt}}, {{From: 5, To: 3, Text: "x"}},
		{{From: 0, To: 255, Text: "\xff"}}, {{From: 0, To: 255, Text: "\U0010FFFF"}}, {{From: 0, To: 255, Text: "\uD7FF"}},
	} {
		for _, w := range []bool{false, true} {
			x := api.Font{Wide: w, Codes: l, Miss: math.MinInt, Widths: map[int]int{-1: 5, 97: math.MaxInt}, Names: map[int]string{-1: "a", math.MaxInt: "b"}}
			if s, err := font.Signs(x, "a\xffa\x00"); err != nil || len(s) == 0 {
				t.Errorf("Signs(%v): %v, %v", x, s, err)
			}
		}
	}
}

func TestFresh(t *testing.T) { // Z2
	f := with(t, stream(9, program(t, false, api.Span{From: 3, To: 5, Text: "x"})))
	v := simple(field("FirstChar", whole(1)), field("Widths", wholes(5)), field("ToUnicode", ref(9)), field("Encoding", dict(field("Differences", list(name("a"))))))
	want := api.Font{Widths: map[int]int{1: 5}, Names: map[int]string{0: "a"}, Codes: []api.Span{{From: 3, To: 5, Text: "x"}}}
	x, _ := font.Read(f, v)
	x.Widths[1], x.Names[0], x.Codes[0].Text = 9, "b", "y"
	reads(t, f, v, want)

	font1 := api.Font{Widths: maps.Clone(want.Widths), Names: maps.Clone(want.Names), Codes: slices.Clone(want.Codes)}
	l, _ := font.Signs(font1, "\x00\x03a")
	l[0], l[1] = api.Sign{}, api.Sign{}
	signs(t, font1, "\x00\x03a", api.Sign{Code: 0, Text: "a"}, api.Sign{Code: 3, Text: "x"}, api.Sign{Code: 'a', Text: "a"})
	if !same(font1, want) {
		t.Errorf("Signs wrote into its font: %v", font1)
	}
}

// someValue: any, also such that may not be.
func someValue(r *rand.Rand, deep int) api.Value {
	k := r.Intn(10)
	if deep > 3 {
		k = r.Intn(7)
	}
	switch k {
	case 0:
		return api.Value{Kind: r.Intn(12) - 2, N: r.Intn(3)}
	case 1, 2:
		return num([]int{r.Intn(20000) - 9000, 1000 * r.Intn(300), api.MaxFix, math.MaxInt, math.MinInt, 65535000, 65536000}[r.Intn(7)])
	case 3:
		return name([]string{"Type0", "a", "uni0041", "", "\xff"}[r.Intn(5)])
	case 4, 5:
		return ref([]int{2, 3, 4, absent, cycle, broken, solid, -1}[r.Intn(8)])
	case 6:
		return str("a")
	case 7, 8:
		v := list()
		for range r.Intn(5) {
			v.L = append(v.L, someValue(r, deep+1))
		}
		return v
	}
	return someFont(r, deep+1)
}

// someFont: a dictionary that has some of a font's fields, often such that may be.
func someFont(r *rand.Rand, deep int) api.Value {
	v := api.Value{Kind: api.Dict}
	good := map[string]api.Value{"FirstChar": whole(r.Intn(300)), "MissingWidth": num(r.Intn(5000) - 2000), "Subtype": name([]string{"Type0", "Type1"}[r.Intn(2)]), "ToUnicode": ref(2 + r.Intn(2)),
		"W": list(whole(r.Intn(70000)), wholes(1, 2)), "Widths": wholes(1, 2, 3), "Encoding": differences(list(whole(r.Intn(600)), name("a"), name("b"))).F[0].V, "Differences": list(name("a"))}
	for _, n := range []string{"Differences", "Encoding", "FirstChar", "MissingWidth", "Subtype", "ToUnicode", "W", "Widths", "Widths"} {
		switch r.Intn(6) {
		case 0:
			v.F = append(v.F, field(n, someValue(r, deep+1)))
		case 1, 2, 3:
			v.F = append(v.F, field(n, good[n]))
		}
	}
	return v
}

// may: is what was read a font that may be?
func may(x api.Font) bool {
	for code := range x.Widths {
		if code < 0 || code > api.MaxCode {
			return false
		}
	}
	for code := range x.Names {
		if code < 0 || code > 255 || x.Wide {
			return false
		}
	}
	return len(x.Widths) <= api.MaxParts+1 && cmap.Check(x.Codes, x.Wide) == nil
}

func TestAnyValue(t *testing.T) { // Z1, Z2, Z3
	r := rand.New(rand.NewSource(7))
	f := with(t, stream(2, program(t, false, api.Span{From: 97, To: 99, Text: "x"})), stream(3, program(t, true, api.Span{From: 97, To: 990, Text: "x"})), plain(4, list(ref(solid), whole(9))))
	read := 0
	for range 20000 {
		v := someFont(r, 0)
		ahead := value.Copy(v)
		x, err := font.Read(f, v)
		if err != nil {
			if _, is := err.(api.Errno); !is || err == api.OK {
				t.Fatalf("Read(%v): %v is no error of api", v, err)
			}
			noRead(t, f, v, err)
		} else {
			read++
			reads(t, f, ahead, x)
		}
		if !value.Alike(v, ahead) || !may(x) {
			t.Fatalf("Read(%v): %v", ahead, x)
		}
		s := "ab\x00a"
		l, err := font.Signs(x, s)
		if x.Wide && len(l) != 2 || !x.Wide && len(l) != 4 || err != nil {
			t.Fatalf("Signs(%v): %v, %v", x, l, err)
		}
		for _, y := range l {
			if !utf8.ValidString(y.Text) {
				t.Fatalf("Signs(%v): %v", x, l)
			}
		}
	}
	if read < 1000 {
		t.Errorf("just %d fonts were read", read)
	}
}
