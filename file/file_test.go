package file_test

import (
	"fmt"
	"math"
	"math/rand"
	"reflect"
	"slices"
	"strconv"
	"strings"
	"testing"

	"foliowright/api"
	"foliowright/file"
	"foliowright/filter"
	"foliowright/value"
)

func num(n int) api.Value                   { return api.Value{Kind: api.Num, N: n} }
func str(s string) api.Value                { return api.Value{Kind: api.Str, S: s} }
func name(s string) api.Value               { return api.Value{Kind: api.Name, S: s} }
func ref(n int) api.Value                   { return api.Value{Kind: api.Ref, N: n} }
func list(l ...api.Value) api.Value         { return api.Value{Kind: api.List, L: l} }
func dict(f ...api.Field) api.Value         { return api.Value{Kind: api.Dict, F: f} }
func field(n string, v api.Value) api.Field { return api.Field{Name: n, V: v} }

// plain: an object that is no stream; stream: one, whose value has these fields.
func plain(n int, v api.Value) api.Object { return api.Object{N: n, V: v} }
func stream(n int, data string, f ...api.Field) api.Object {
	return api.Object{N: n, V: dict(f...), Stream: true, Data: data}
}
func objects(l ...api.Object) []api.Object { return l }

// filled: objects from 1 to n.
func filled(n int) []api.Object {
	var l []api.Object
	for i := range n {
		l = append(l, plain(i+1, num(i*1000)))
	}
	return l
}

// built: a file of objects, whose root is 1.
func built(t *testing.T, l ...api.Object) string {
	t.Helper()
	s, err := file.Build(l, 1)
	if err != nil {
		t.Fatalf("Build(%.300s): %v", fmt.Sprint(l), err)
	}
	return s
}

// noBuild: Build tells this error, and nothing besides; Update likewise, where the root tells nothing.
func noBuild(t *testing.T, l []api.Object, root int, want error) {
	t.Helper()
	if s, err := file.Build(l, root); s != "" || err != want {
		t.Errorf("Build(%.300s, %d): %.200q, %v, want %v alone", fmt.Sprint(l), root, s, err, want)
	}
	if root != 1 {
		return
	}
	if s, err := file.Update(built(t), l); s != "" || err != want {
		t.Errorf("Update(%.300s): %.200q, %v, want %v alone", fmt.Sprint(l), s, err, want)
	}
}

// read: a file that can be read.
func read(t *testing.T, s string) *file.File {
	t.Helper()
	f, err := file.Read(s)
	if err != nil || f == nil {
		t.Fatalf("Read(%.500q): %v", s, err)
	}
	return f
}

// noRead: Read tells this error, and nothing besides; Update likewise, ahead of all that it would say of objects.
func noRead(t *testing.T, s string, want error) {
	t.Helper()
	if f, err := file.Read(s); f != nil || err != want {
		t.Errorf("Read(%.500q): %v, want %v alone", s, err, want)
	}
	if u, err := file.Update(s, filled(api.MaxObject+1)); u != "" || err != want {
		t.Errorf("Update(%.500q): %.200q, %v, want %v alone", s, u, err, want)
	}
}

// table: a file that has just a table, of these entries, and these last words.
func table(entries, last string) string {
	return "%PDF-1.4\nxref\n" + entries + "trailer\n" + last + "\nstartxref\n9\n%%EOF\n"
}

// one: a file of which an object of that number stands, as this text, at its place.
func one(n int, text string) string {
	s := "%PDF-1.4\n" + text
	return s + "\nxref\n" + strconv.Itoa(n) + " 1\n0000000009 00000 n \ntrailer\n<<>>\nstartxref\n" + strconv.Itoa(len(s)+1) + "\n%%EOF\n"
}

// gets: that object is there.
func gets(t *testing.T, s string, want api.Object) {
	t.Helper()
	o, err := read(t, s).Get(want.N)
	if err != nil || !same(o, want) {
		t.Errorf("Get(%d) of %.300q: %.300s, %v, want %.300s", want.N, s, fmt.Sprint(o), err, fmt.Sprint(want))
	}
}

// noGet: that object tells this error, and nothing besides.
func noGet(t *testing.T, s string, n int, want error) {
	t.Helper()
	o, err := read(t, s).Get(n)
	if err != want || !reflect.DeepEqual(o, api.Object{}) {
		t.Errorf("Get(%d) of %.300q: %.300s, %v, want %v alone", n, s, fmt.Sprint(o), err, want)
	}
}

// same: are two objects the same?
func same(a, b api.Object) bool {
	return a.N == b.N && a.Stream == b.Stream && a.Data == b.Data && value.Alike(a.V, b.V)
}

func TestBuild(t *testing.T) { // F1
	head := "%PDF-1.4\n"
	s, err := file.Build(objects(
		plain(7, list(num(1500), ref(60))), stream(2, "a(\nb", field("Filter", api.Value{}), field("Z", str("("))), plain(60, api.Value{}), plain(1, name("a b")), plain(8, dict()), stream(3, "")), 60)
	seven := "7 0 obj\n[1.5 60 0 R]\nendobj\n"
	two := "2 0 obj\n<< /Filter null /Length 4 /Z (\\() >>\nstream\na(\nb\nendstream\nendobj\n"
	sixty := "60 0 obj\nnull\nendobj\n"
	first := "1 0 obj\n/a#20b\nendobj\n"
	eight := "8 0 obj\n<< >>\nendobj\n"
	three := "3 0 obj\n<< /Length 0 >>\nstream\n\nendstream\nendobj\n"
	places := make([]string, 61)
	want := head
	for _, x := range []struct {
		n    int
		text string
	}{{7, seven}, {2, two}, {60, sixty}, {1, first}, {8, eight}, {3, three}} {
		places[x.n] = fmt.Sprintf("%010d 00000 n \n", len(want))
		want += x.text
	}
	want += fmt.Sprintf("xref\n1 3\n%s%s%s7 2\n%s%s60 1\n%strailer\n<< /Root 60 0 R >>\nstartxref\n%d\n%%%%EOF\n",
		places[1], places[2], places[3], places[7], places[8], places[60], len(want))
	if s != want || err != nil {
		t.Errorf("Build: %q, %v, want %q", s, err, want)
	}
	if s, err := file.Build(nil, 5); err != nil || s != head+"xref\ntrailer\n<< /Root 5 0 R >>\nstartxref\n9\n%%EOF\n" {
		t.Errorf("Build of nothing: %q, %v", s, err)
	}
	if s := built(t, plain(60, num(0))); s != head+"60 0 obj\n0\nendobj\nxref\n60 1\n0000000009 00000 n \ntrailer\n<< /Root 1 0 R >>\nstartxref\n27\n%%EOF\n" {
		t.Errorf("Build of 60 alone: %q", s)
	}
}

func TestBuildErrors(t *testing.T) { // F1
	for _, n := range []int{0, -1, 61, math.MinInt, math.MaxInt} {
		noBuild(t, filled(61), n, api.ErrBound)
		noBuild(t, objects(api.Object{N: n, V: num(-math.MaxInt), Stream: true, Data: "x"}), 1, api.ErrBound)
		noBuild(t, objects(plain(1, num(0)), plain(n, num(math.MaxInt))), 1, api.ErrBound)
	}
	for _, n := range []int{1, 2, 59, 60} {
		if s, err := file.Build(objects(plain(n, num(0))), n); err != nil || !strings.Contains(s, fmt.Sprintf("\n%d 0 obj\n", n)) || !strings.Contains(s, fmt.Sprintf("<< /Root %d 0 R >>", n)) {
			t.Errorf("Build of %d: %q, %v", n, s, err)
		}
	}
	built(t, filled(60)...)
	noBuild(t, filled(61), 1, api.ErrMany)
	noBuild(t, append(filled(60), plain(1, num(0))), 1, api.ErrMany)
	for _, v := range []api.Value{{}, num(0), list(), name("a"), ref(1), {Kind: 9}, {Kind: -1, F: dict(field("a", num(0))).F}} {
		noBuild(t, objects(api.Object{N: 1, V: v, Stream: true, Data: strings.Repeat("x", 20001)}), 1, api.ErrKind)
	}
	built(t, stream(1, strings.Repeat("x", 20000)))
	noBuild(t, objects(stream(1, strings.Repeat("x", 20001))), 1, api.ErrMany)
	noBuild(t, objects(stream(1, strings.Repeat("x", 20001), field("", num(0)))), 1, api.ErrMany)
	noBuild(t, objects(api.Object{N: 1, V: num(math.MaxInt), Data: "x"}), 1, api.ErrShape)
	noBuild(t, objects(api.Object{N: 1, V: list(slices.Repeat([]api.Value{{}}, 300)...), Data: "x"}), 1, api.ErrShape)
	noBuild(t, objects(plain(1, num(api.MaxFix+1))), 1, api.ErrShape)
	noBuild(t, objects(plain(1, list(slices.Repeat([]api.Value{{}}, 300)...))), 1, api.ErrMany)
	built(t, plain(1, list(slices.Repeat([]api.Value{{}}, 299)...)))
	noBuild(t, objects(stream(1, "", field("a", num(0)), field("a", num(0)))), 1, api.ErrShape)
	noBuild(t, objects(stream(1, "", field("M", num(0)), field("A", num(0)))), 1, api.ErrShape)
	noBuild(t, objects(plain(1, num(0)), plain(1, num(0))), 1, api.ErrShape)
	noBuild(t, objects(plain(1, num(0)), plain(2, num(0)), stream(1, "")), 1, api.ErrShape)
	// Of the first one that is wrong, what is wrong with it first.
	noBuild(t, objects(plain(1, num(0)), plain(1, list(slices.Repeat([]api.Value{{}}, 300)...))), 1, api.ErrMany)
	noBuild(t, objects(plain(1, num(0)), plain(1, num(0)), plain(0, num(0))), 1, api.ErrShape)
	noBuild(t, objects(plain(1, num(0)), plain(0, num(0)), plain(1, num(0))), 1, api.ErrBound)
}

// wide: so many fields.
func wide(n int) []api.Field {
	var l []api.Field
	for i := range n {
		l = append(l, field(fmt.Sprintf("P%03d", i), api.Value{}))
	}
	return l
}

func TestLength(t *testing.T) { // F1
	for _, c := range []struct {
		o    api.Object
		want string
	}{
		{stream(1, "abc"), "<< /Length 3 >>"},
		{stream(1, "abc", field("Length", num(99000))), "<< /Length 3 >>"},
		{stream(1, "", field("A", num(0)), field("Length", ref(5)), field("Z", num(0))), "<< /A 0 /Length 0 /Z 0 >>"},
		{stream(1, "x", field("K", num(0)), field("M", num(0))), "<< /K 0 /Length 1 /M 0 >>"},
		{stream(1, "x", field("Length", num(math.MaxInt))), "<< /Length 1 >>"}, // what can't be told isn't there any more
		{stream(1, strings.Repeat("x", 20000)), "<< /Length 20000 >>"},
	} {
		ahead := value.Copy(c.o.V)
		if s := built(t, c.o); !strings.HasPrefix(s, "%PDF-1.4\n1 0 obj\n"+c.want+"\nstream\n"+c.o.Data+"\nendstream\nendobj\nxref\n") {
			t.Errorf("Build(%.200s): %.300q", fmt.Sprint(c.o), s)
		}
		if !value.Alike(c.o.V, ahead) {
			t.Errorf("Build wrote into %v", ahead)
		}
	}
	built(t, stream(1, "", wide(298)...))
	noBuild(t, objects(stream(1, "", wide(299)...)), 1, api.ErrMany)
	built(t, plain(1, dict(wide(299)...)))
}

// padded: a file of just so many bytes, whose objects are streams of x.
func padded(t *testing.T, bytes int) []api.Object {
	t.Helper()
	l := objects(stream(1, strings.Repeat("x", 20000)), stream(2, strings.Repeat("x", 20000)), stream(3, strings.Repeat("x", 15000)))
	l[2].Data += strings.Repeat("x", bytes-len(built(t, l...)))
	return l
}

func TestMaxFile(t *testing.T) { // F1, F2, F3
	l := padded(t, api.MaxFile)
	s := built(t, l...)
	if f := read(t, s); len(s) != api.MaxFile || !slices.Equal(f.Numbers(), []int{1, 2, 3}) {
		t.Errorf("a file of %d bytes: %v", len(s), f.Numbers())
	}
	if o, err := read(t, s).Get(3); err != nil || o.Data != l[2].Data {
		t.Errorf("a full file: %v", err)
	}
	noRead(t, s+" ", api.ErrMany)
	noRead(t, strings.Repeat("x", api.MaxFile+1), api.ErrMany)
	noRead(t, strings.Repeat("x", api.MaxFile), api.ErrText)
	l[2].Data += "x"
	if s, err := file.Build(l, 1); s != "" || err != api.ErrMany {
		t.Errorf("a file of a byte too many: %d bytes, %v", len(s), err)
	}
	l[2].N = 1 // what is wrong with an object is told ahead
	noBuild(t, l, 1, api.ErrShape)

	// What is laid behind a file has as many bytes, wherever its table stands.
	s = built(t, padded(t, api.MaxFile-500)...)
	more := len(updated(t, s, plain(1, num(0)))) - len(s)
	if u := updated(t, built(t, padded(t, api.MaxFile-more)...), plain(1, num(0))); len(u) != api.MaxFile {
		t.Errorf("Update: %d bytes", len(u))
	}
	if u, err := file.Update(built(t, padded(t, api.MaxFile-more+1)...), objects(plain(1, num(0)))); u != "" || err != api.ErrMany {
		t.Errorf("Update, a byte too many: %d bytes, %v", len(u), err)
	}
}

func updated(t *testing.T, s string, l ...api.Object) string {
	t.Helper()
	u, err := file.Update(s, l)
	if err != nil {
		t.Fatalf("Update(%.300q, %.300s): %v", s, fmt.Sprint(l), err)
	}
	return u
}

// placed: '|' marks where the last table stands, '^' where an object does; both are taken away, and TABLE and PLACE are these places, in as many digits.
func placed(s string) string {
	table := strings.Index(strings.ReplaceAll(s, "^", ""), "|")
	object := strings.Index(strings.ReplaceAll(s, "|", ""), "^")
	return strings.NewReplacer("|", "", "^", "", "TABLE", fmt.Sprintf("%05d", table), "PLACE", fmt.Sprintf("%05d", object)).Replace(s)
}

func TestBeginning(t *testing.T) { // F2
	for _, s := range []string{
		"", "%", "%PDF", "PDF-", "%PDF_", "%PDF-", "%PDF-1.4\n", " %PDF-1.4\nstartxref TABLE |xref trailer<<>>", "%pdf-1.4\nstartxref TABLE |xref trailer<<>>", "x%PDF-1.4\nstartxref TABLE |xref trailer<<>>",
		"\n%PDF-1.4\nstartxref TABLE |xref trailer<<>>", "startxref TABLE |xref trailer<<>>", "%PDF-1.4\n|xref trailer<<>> startxre TABLE", "%PDF-1.4\n|xref trailer<<>> Startxref TABLE", "%PDF-1.4\n|xref trailer<<>> start xref TABLE",
	} {
		noRead(t, placed(s), api.ErrText)
	}
	for _, s := range []string{"%PDF-startxref TABLE |xref trailer<<>>", "%PDF-2.7\nstartxref TABLE\x00|xref\ntrailer<<>>", "%PDF-\xff\xff |xref trailer<<>> startxref TABLE", "%PDF-|xref trailer<<>>startxrefTABLE", "%PDF-|xref trailer<<>>xstartxrefTABLE"} {
		if f := read(t, placed(s)); len(f.Numbers()) > 0 {
			t.Errorf("of %q: %v", s, f.Numbers())
		}
	}
}

func TestStart(t *testing.T) { // F2
	body := "%PDF-1.4\nxref trailer<</Root 5 0 R>>\n"
	for _, end := range []string{
		"startxref 9", "startxref\n9\n%%EOF\n", "startxref9", "startxref%x\n9", "startxref \x00\t\f\r\n%9\r%\n09", "startxref 0000000009", "startxref 9%", "startxref 9(", "startxref 9/x", "startxref 9[ 11",
		"startxref 7 startxref 9", "startxref\nxstartxref 9", "startxref x\n%%EOF\nstartxref 000009 00",
	} {
		if n, err := read(t, body+end).Root(); n != 5 || err != nil {
			t.Errorf("%q: %d, %v", end, n, err)
		}
	}
	for _, end := range []string{
		"startxref", "startxref ", "startxref %9", "startxref x", "startxref 9x", "startxref x9", "startxref -9", "startxref +9", "startxref 9.0", "startxref 9.", "startxref (9)", "startxref /9", "startxref 0x9", "startxref 00000000009",
		"startxref 99999999999", "startxref 9999999999", "startxref 0", "startxref 8", "startxref 10", "startxref 13", "startxref 999", "startxref " + strconv.Itoa(len(body)+len("startxref 999")), "startxref 9\nstartxref", "startxref 9 startxref 8", "startxref 9 startxref x", "startxref ٩", "startxref 9_0",
	} {
		noRead(t, body+end, api.ErrText)
	}
}

func TestTable(t *testing.T) { // F2
	for entries, want := range map[string][]int{
		"":                                    nil,
		"1 0\n":                               nil,
		"1 0 2 0 3 0\n":                       nil,
		"1 1\n9 0 n\n":                        {1},
		"0 2\n0 65535 f\n9 0 n":               {1},
		"1 2 9 0 n 9 0 n 5 1 9 0 n 4 1 9 0 n": {1, 2, 4, 5},
		"1 3 9 0 n 9 0 f 9 0 n":               {1, 3},
		"60 1 9 0 n":                          {60},
		"60 2 9 0 n 9 0 n":                    {60},
		"61 1 9 0 n":                          nil,
		"0 1 9 0 n":                           nil,
		"59 4 9 0 n 9 0 n 9 0 n 9 0 n":        {59, 60},
		"9999999999 2 9 0 n 9 0 n":            nil,
		"1 1 9 0 f 1 1 9 0 n":                 nil,
		"1 1 9 0 n 1 1 9 0 f":                 {1},
		"1 1 9999999999 9999999999 n":         {1},
		"1 1 0000000000 0000000000 n":         {1},
		"01 001 09 00 n ":                     {1},
		"0000000001 0000000001 9 0 n":         {1},
		"%1 1\n1%\n1%x\r9%\n0%n\n%\nn%\n":     {1},
		"1 1 9 0 n%x\n\x00\f2\t1\r\n9 0 f 3 1 0 1 n":              {1, 3},
		"2 1 9 0 n 1 1 9 0 n":                                     {1, 2},
		"1 2\n0000000009 00000 n \n0000000009 00000 n \n":         {1, 2},
		"1 2\r\n0000000009 00000 n\r\n0000000009 00000 n\r\n":     {1, 2},
		"10 1 9 0 n 2 1 9 0 n 30 1 9 0 n 4 1 9 0 n 5 1 9 0 f":     {2, 4, 10, 30},
		"1 60" + strings.Repeat(" 9 0 n", 60):                     filledNumbers(60),
		"0 200" + strings.Repeat(" 9 0 n", 200) + " 1 1 9 0 f":    filledNumbers(60),
		"1 2000" + strings.Repeat(" 9 0 f", 2000) + " 1 1 9 0 n ": nil,
	} {
		f := read(t, table(entries+"\n", "<<>>"))
		if l := f.Numbers(); !slices.Equal(l, want) {
			t.Errorf("of %.200q: %v, want %v", entries, l, want)
		}
	}
	for _, entries := range []string{
		"1", "1 1", "1 1 9", "1 1 9 0", "1 x", "x", "x 1 9 0 n", "1 1 x 0 n", "1 1 9 x n", "1 1 9 0 x", "1 1 9 0 N", "1 1 9 0 nn", "1 1 9 0 F", "1 1 9 0 (n)", "1 1 9 0 /n", "1 1 (9) 0 n", "1 1 9 0 n n", "1 1 9 0 n 2",
		"1 2 9 0 n", "1 1 9 0 n 9 0 n", "1 9999999999 9 0 n", "1 -1", "-1 1 9 0 n", "+1 1 9 0 n", "1 +1 9 0 n", "1 1 -9 0 n", "1 1 9 -0 n", "1 1 9. 0 n", "1 1.0 9 0 n", "00000000001 1 9 0 n", "1 00000000001 9 0 n",
		"1 1 00000000009 0 n", "1 1 9 00000000000 n", "1 1 9 0 n trailerx", "1 1 9 0 n Trailer", "1 1 9 0 n x", "xref", "1 1 9 0 ", "[1 1 9 0 n]", "1 1 9 0 trailer", "1 0 x", "1 0 /x", "(", "1 60" + strings.Repeat(" 9 0 n", 59),
	} {
		noRead(t, table(entries+"\n", "<<>>"), api.ErrText)
	}
	noRead(t, "%PDF-1.4\nxref\n1 1 9 0 n\nstartxref\n9", api.ErrText)
	noRead(t, "%PDF-1.4\nstartxref\n19\nxref\n", api.ErrText)
	for _, word := range []string{"xrefx", "Xref", "xre", " xref", "\nxref", "%\nxref", "(xref", "x ref"} {
		noRead(t, "%PDF-1.4\n"+word+" trailer<<>>startxref 9", api.ErrText)
	}
	read(t, "%PDF-1.4\nxref%x\ntrailer%x\n<<>>startxref 9")
	noRead(t, "%PDF-1.4\nxref/trailer<<>>startxref 9", api.ErrText)
}

func filledNumbers(n int) []int {
	var l []int
	for i := range n {
		l = append(l, i+1)
	}
	return l
}

func TestLastWords(t *testing.T) { // F2
	for last, want := range map[string]error{
		"": api.ErrText, ")": api.ErrText, "x": api.ErrText, "<</a": api.ErrText, "<</a 1": api.ErrText, "<</a 1/a 2>>": api.ErrShape, "<</a 9999999>>": api.ErrBound, "<</a (": api.ErrEnd, "[[[[[[[[[": api.ErrMany,
		"(": api.ErrEnd, "1": api.ErrKind, "null": api.ErrKind, "[]": api.ErrKind, "(a)": api.ErrKind, "/a": api.ErrKind, "1 0 R": api.ErrKind, "true": api.ErrKind, "[<<>>]": api.ErrKind,
	} {
		noRead(t, table("", last), want)
		noRead(t, table("1 1 9 0 n ", last), want)
		noRead(t, table("1 1 9 0 ", last), api.ErrText) // that comes first
	}
	for _, end := range []string{"", " ", " %<<>>", " <<", "<</a", "<</a 1", "<</Root 1 0 R>", "(", "["} {
		want := error(api.ErrEnd)
		if strings.HasSuffix(end, ">") && !strings.HasPrefix(end, " ") {
			want = api.ErrText
		}
		noRead(t, placed("%PDF- startxref TABLE |xref trailer"+end), want)
	}
	for last, want := range map[string]int{"<</Root 1 0 R>>": 1, "<</Root 60 0 R/Size 5>>": 60, "<<\n/Info 3 0 R\n/Root%x\n2 0 R >> x": 2} {
		if n, err := read(t, table("", last)).Root(); n != want || err != nil {
			t.Errorf("Root of %q: %d, %v", last, n, err)
		}
	}
	for last, want := range map[string]error{
		"<<>>": api.ErrNone, "<</root 1 0 R>>": api.ErrNone, "<</A<</Root 1 0 R>>>>": api.ErrNone, "<</Root null>>": api.ErrKind, "<</Root 1>>": api.ErrKind, "<</Root[1 0 R]>>": api.ErrKind, "<</Root<<>>>>": api.ErrKind, "<</Root/a>>": api.ErrKind,
		"<</Root 61>>": api.ErrKind,
	} {
		if n, err := read(t, table("", last)).Root(); n != 0 || err != want {
			t.Errorf("Root of %q: %d, %v, want %v", last, n, err, want)
		}
	}
}

// chain of so many tables, the first one first, each leading to the one ahead of it; the first one to what is told.
func chain(n int, first string) string {
	s := "%PDF-1.4\n"
	prev := first
	at := 0
	for i := range n {
		at = len(s)
		s += fmt.Sprintf("xref %d 1 %d 0 n trailer <</Root %d 0 R%s>>\n", i+1, i+1, i+1, prev)
		prev = fmt.Sprintf("/Prev %d", at)
	}
	return s + "startxref " + strconv.Itoa(at)
}

func TestChain(t *testing.T) { // F2
	for n := 1; n <= api.MaxChain; n++ {
		f := read(t, chain(n, ""))
		if root, err := f.Root(); root != n || err != nil || !slices.Equal(f.Numbers(), filledNumbers(n)) {
			t.Errorf("%d tables: %v, %d, %v", n, f.Numbers(), root, err)
		}
		noRead(t, chain(n, "/Prev 9"), api.ErrCycle) // also of the greatest number of them
		noRead(t, chain(n, "/Prev 9.001"), api.ErrKind)
	}
	noRead(t, chain(api.MaxChain+1, ""), api.ErrMany)
	noRead(t, chain(api.MaxChain+1, "/Prev 9"), api.ErrMany)
	noRead(t, chain(api.MaxChain+1, "/Prev -9"), api.ErrMany) // it isn't read any more
	noRead(t, chain(api.MaxChain, "/Prev 8"), api.ErrMany)
	noRead(t, chain(api.MaxChain-1, "/Prev 8"), api.ErrText)
	for prev, want := range map[string]error{
		"null": api.ErrKind, "-1": api.ErrKind, "9.5": api.ErrKind, ".001": api.ErrKind, "(9)": api.ErrKind, "[9]": api.ErrKind, "/a": api.ErrKind, "true": api.ErrKind, "9 0 R": api.ErrKind, "<<>>": api.ErrKind, "-9": api.ErrKind,
		"9": api.ErrCycle, "9.": api.ErrCycle, "+09.000": api.ErrCycle, "0": api.ErrText, "8": api.ErrText, "1000000": api.ErrText, "10": api.ErrText,
	} {
		noRead(t, table("", "<</Prev "+prev+">>"), want)
	}
	two := "%PDF-1.4\nxref trailer <</Prev 00038>>\nxref trailer <</Prev 9>>\nstartxref "
	noRead(t, two+"38", api.ErrCycle)
	noRead(t, two+"9", api.ErrCycle)
	noRead(t, two+"37", api.ErrText)
}

func TestToldFirst(t *testing.T) { // F2
	s := "%PDF-1.4\n1 0 obj 11 endobj 1 0 obj 12 endobj 2 0 obj 21 endobj 2 0 obj 22 endobj 3 0 obj 31 endobj 4 0 obj 41 endobj\n"
	place := func(n, v int) string {
		return fmt.Sprintf(" %d 0 n ", strings.Index(s, fmt.Sprintf("%d 0 obj %d", n, v)))
	}
	old := "xref 1 4" + place(1, 11) + place(2, 21) + place(3, 31) + " 0 0 f trailer <</Root 1 0 R>>\n"
	late := fmt.Sprintf("xref 2 1 %s 1 4 %s %s 0 1 f %s trailer <</Prev %d>>\n", place(2, 22), place(1, 12), place(2, 21), place(4, 41), len(s))
	f := read(t, s+old+late+"startxref "+strconv.Itoa(len(s+old)))
	if l := f.Numbers(); !slices.Equal(l, []int{1, 2, 4}) {
		t.Errorf("they are there: %v", l)
	}
	for n, want := range map[int]int{1: 12000, 2: 22000, 4: 41000} {
		if o, err := f.Get(n); err != nil || !same(o, plain(n, num(want))) {
			t.Errorf("Get(%d): %v, %v", n, o, err)
		}
	}
	if o, err := f.Get(3); err != api.ErrNone || !same(o, api.Object{}) {
		t.Errorf("Get(3): %v, %v", o, err)
	}
	if n, err := f.Root(); n != 0 || err != api.ErrNone { // the last words are those of the last table alone
		t.Errorf("Root: %d, %v", n, err)
	}
}

func TestUpdate(t *testing.T) { // F3
	s := built(t, plain(1, num(1000)), plain(2, num(2000)))
	u := updated(t, s, plain(3, num(3000)), stream(1, "abc"))
	at := strings.Index(s, "xref\n")
	three := "3 0 obj\n3\nendobj\n"
	first := "1 0 obj\n<< /Length 3 >>\nstream\nabc\nendstream\nendobj\n"
	want := s + three + first + fmt.Sprintf("xref\n1 1\n%010d 00000 n \n3 1\n%010d 00000 n \ntrailer\n<< /Prev %d /Root 1 0 R >>\nstartxref\n%d\n%%%%EOF\n", len(s+three), len(s), at, len(s+three+first))
	if u != want {
		t.Errorf("Update: %q, want %q", u, want)
	}
	gets(t, u, api.Object{N: 1, V: dict(field("Length", num(3000))), Stream: true, Data: "abc"})
	gets(t, u, plain(2, num(2000)))
	gets(t, u, plain(3, num(3000)))
	noGet(t, u, 4, api.ErrNone)

	// All last words stay but Prev, and nothing parts what is laid from what is there.
	old := placed("%PDF-1.4\nxref trailer<</Z 1/A(x)>>\n|xref 1 1 9 0 f trailer<</Z 2/Prev 9/B 9>> startxref TABLE 00")
	second := strings.LastIndex(old, "xref 1")
	u = updated(t, old)
	if want := old + fmt.Sprintf("xref\ntrailer\n<< /B 9 /Prev %d /Z 2 >>\nstartxref\n%d\n%%%%EOF\n", second, len(old)); u != want {
		t.Errorf("Update with nothing: %q, want %q", u, want)
	}
	read(t, u)

	// A last word too many is told behind what is wrong with objects.
	full := table("", "<<"+names(299)+">>")
	if u, err := file.Update(full, nil); u != "" || err != api.ErrMany {
		t.Errorf("Update: %.200q, %v", u, err)
	}
	if u, err := file.Update(full, objects(plain(0, num(0)))); u != "" || err != api.ErrBound {
		t.Errorf("Update: %.200q, %v", u, err)
	}
	updated(t, table("", "<<"+names(298)+">>"))
	noRead(t, "", api.ErrText)
}

// names: so many fields of a dictionary.
func names(n int) string {
	var b strings.Builder
	for i := range n {
		fmt.Fprintf(&b, "/P%d 0", i)
	}
	return b.String()
}

func TestUpdates(t *testing.T) { // F2, F3
	s := built(t, filled(5)...)
	for i := range api.MaxChain - 1 {
		s = updated(t, s, plain(6+i, num(i)), plain(1, num(i)))
		if f := read(t, s); !slices.Equal(f.Numbers(), filledNumbers(6+i)) {
			t.Errorf("%d updates: %v", i+1, f.Numbers())
		}
		gets(t, s, plain(1, num(i)))
		gets(t, s, plain(2, num(1000)))
	}
	noRead(t, updated(t, s, plain(1, num(0))), api.ErrMany)
}

func TestGet(t *testing.T) { // F4
	for text, want := range map[string]api.Object{
		"7 0 obj 5 endobj":                      plain(7, num(5000)),
		"7 0 obj\n5\nendobj\n":                  plain(7, num(5000)),
		"%x\n \x00 7%\n0%x\robj%\n5%\nendobj":   plain(7, num(5000)),
		"7 0 obj<<>>endobj":                     plain(7, dict()),
		"7 0 obj(a)endobj":                      plain(7, str("a")),
		"7 0 obj[1 0 R]endobj":                  plain(7, list(ref(1))),
		"7 0 obj/a endobj":                      plain(7, name("a")),
		"7 0 obj 8 0 R endobj":                  plain(7, ref(8)),
		"7 0 obj null endobj(x":                 plain(7, api.Value{}),
		"7 0 obj 5 endobj/":                     plain(7, num(5000)),
		"7 0 obj<</Length 3>>endobj":            plain(7, dict(field("Length", num(3000)))),
		"7 0 obj<</B 1/A 2>>endobj 8 0 obj":     plain(7, dict(field("A", num(2000)), field("B", num(1000)))),
		"7 0 obj<</Length 0>>stream\nendstream": {N: 7, V: dict(field("Length", num(0))), Stream: true},
	} {
		gets(t, one(7, text), want)
	}
	gets(t, one(60, "60 0 obj 5 endobj"), plain(60, num(5000)))
	for text, want := range map[string]error{
		"8 0 obj 5 endobj": api.ErrText, "07 0 obj 5 endobj": api.ErrText, "+7 0 obj 5 endobj": api.ErrText, "7.0 0 obj 5 endobj": api.ErrText, "7 00 obj 5 endobj": api.ErrText, "7 1 obj 5 endobj": api.ErrText, "7 obj 5 endobj": api.ErrText,
		"7 0 Obj 5 endobj": api.ErrText, "7 0 objx 5 endobj": api.ErrText, "7 0obj 5 endobj": api.ErrText, "70 obj 5 endobj": api.ErrText, "(7 0 obj 5 endobj": api.ErrText, "7 0 (obj) 5 endobj": api.ErrText, "7 0": api.ErrText, "": api.ErrText,
		"7 0 obj5 endobj": api.ErrText, "7 0 obj endobj": api.ErrText, "7 0 obj ) endobj": api.ErrText, "7 0 obj (": api.ErrEnd, "7 0 obj [ 1 /a#": api.ErrText, "7 0 obj <</a 1/a 2>> endobj": api.ErrShape, "7 0 obj 9999999 endobj": api.ErrBound,
		"7 0 obj [[[[[[[[[]]]]]]]]] endobj": api.ErrMany, "7 0 obj (" + strings.Repeat("x", 201) + ") endobj": api.ErrMany, "7 0 obj 5": api.ErrText, "7 0 obj 5 endobjx": api.ErrText, "7 0 obj 5 Endobj": api.ErrText,
		"7 0 obj 5 6 endobj": api.ErrText, "7 0 obj <<>> >> endobj": api.ErrText, "7 0 obj 5 end": api.ErrText, "7 0 obj 5 (endobj)": api.ErrText, "7 0 obj 5 /endobj": api.ErrText, "7 0 obj <</Length 0>> streamx\nendstream": api.ErrText,
		"7 0 obj <</Length 0>> Stream\nendstream": api.ErrText, "7 0 obj <</Length 0>> obj": api.ErrText,
	} {
		noGet(t, one(7, text), 7, want)
	}
	for _, end := range []string{"7 0 ob", "7 0", "7", ""} {
		noGet(t, placed("%PDF- startxref TABLE |xref 7 1 PLACE 0 n trailer <<>> ^"+end), 7, api.ErrText)
	}
	for _, end := range []string{"", " ", " %x", " [", " <</a"} {
		noGet(t, placed("%PDF- startxref TABLE |xref 7 1 PLACE 0 n trailer <<>> ^7 0 obj"+end), 7, api.ErrEnd)
	}
	noGet(t, placed("%PDF- startxref TABLE |xref 7 1 PLACE 0 n trailer <<>> ^7 0 obj 5"), 7, api.ErrText)
	for _, n := range []int{0, -1, 1, 6, 8, 60, 61, math.MinInt, math.MaxInt, -7} {
		noGet(t, one(7, "7 0 obj 5 endobj"), n, api.ErrNone)
	}
	// Where it stands may be anywhere, also at the end and behind it.
	for _, at := range []string{"0", "8", "9", "9999999999", "59", "60", "61", "62"} {
		noGet(t, table("7 1 "+at+" 0 n\n", "<<>>"), 7, api.ErrText)
	}
}

func TestGetStream(t *testing.T) { // F4
	streamOf := func(length, data string) string {
		return one(7, "7 0 obj <</Length "+length+">> stream"+data)
	}
	for _, c := range []struct{ length, behind, data string }{
		{"3", "\nabc\nendstream\nendobj", "abc"}, {"3", "\r\nabc\nendstream\nendobj", "abc"}, {"3", "\nabcendstream", "abc"}, {"3", "\nabc%x\n%\r \x00endstream", "abc"}, {"0", "\n\nendstream endobj", ""}, {"0", "\nendstream", ""},
		{"0", "\r\nendstream", ""}, {"1", "\n\nendstream", "\n"}, {"1", "\r\n\nendstream", "\n"}, {"2", "\n\r\nendstream", "\r\n"}, {"3.000", "\nabc endstream/x", "abc"}, {"+3", "\nabc\nendstream(", "abc"}, {"9", "\nendstreamendstream", "endstream"},
		{"12", "\na\nendstream\nendstream", "a\nendstream\n"}, {"5", "\n(\x00)%\xff\nendstream", "(\x00)%\xff"}, {"3", "\nabc\nendstream x", "abc"}, {"2", "\nab%c\nendstream", "ab"}, {"20000", "\n" + strings.Repeat("y", 20000) + "\nendstream", strings.Repeat("y", 20000)},
	} {
		n, _ := strconv.ParseFloat(c.length, 64)
		gets(t, streamOf(c.length, c.behind), api.Object{N: 7, V: dict(field("Length", num(int(n)*1000))), Stream: true, Data: c.data})
	}
	for _, length := range []string{"-1", "3.5", ".001", "null", "(3)", "[3]", "/3", "true", "8 0 R", "<<>>", "-3", "2.999"} {
		noGet(t, streamOf(length, "\nabc\nendstream"), 7, api.ErrKind)
		noGet(t, streamOf(length, " x"), 7, api.ErrKind)
	}
	for _, v := range []string{"<<>>", "<</length 3>>", "<</A<</Length 3>>>>", "3", "[3]", "null", "(a)", "[<</Length 3>>]", "/Length", "1 0 R"} {
		noGet(t, one(7, "7 0 obj "+v+" stream\nabc\nendstream"), 7, api.ErrKind)
	}
	for _, behind := range []string{" \nabc\nendstream", "\rabc\nendstream", "\r\rabc\nendstream", "\r \nabc\nendstream", "%x\nabc\nendstream", "\x00\nabc\nendstream", "(abc) endstream", "\fabc endstream", "/abc endstream", " abc endstream"} {
		noGet(t, streamOf("3", behind), 7, api.ErrText)
		noGet(t, streamOf("900000", behind), 7, api.ErrText)
	}
	for _, behind := range []string{"\nabcd\nendstream", "\nabendstream", "\na\nendstream", "\nabc\nendstreamx", "\nabc\nEndstream", "\nabc\nend", "\nabc", "\nabc\nendobj", "\nabc\n(endstream)", "\nabc\n/endstream", "\nabc%endstream", "\nabcxendstream"} {
		noGet(t, streamOf("3", behind), 7, api.ErrText)
	}
}

// atEnd: a file behind whose last words a stream of that length stands, at its very end.
func atEnd(length int, data string) string {
	return placed("%PDF-1.4\nstartxref TABLE\n|xref 7 1 PLACE 0 n trailer <<>>\n^" + fmt.Sprintf("7 0 obj<</Length %d>>stream\n", length) + data)
}

func TestStreamEnds(t *testing.T) { // F4
	gets(t, atEnd(3, "abcendstream"), api.Object{N: 7, V: dict(field("Length", num(3000))), Stream: true, Data: "abc"})
	noGet(t, atEnd(3, "abc"), 7, api.ErrText)
	noGet(t, atEnd(4, "abc"), 7, api.ErrEnd) // a byte too long
	noGet(t, atEnd(1, ""), 7, api.ErrEnd)
	noGet(t, atEnd(0, ""), 7, api.ErrText)
	noGet(t, atEnd(1000000, "abcendstream"), 7, api.ErrEnd)
	noGet(t, atEnd(12, "abcendstream"), 7, api.ErrText)
	noGet(t, atEnd(13, "abcendstream"), 7, api.ErrEnd)
	long := strings.Repeat("x", 20000)
	gets(t, atEnd(20000, long+"\nendstream"), api.Object{N: 7, V: dict(field("Length", num(20000000))), Stream: true, Data: long})
	noGet(t, atEnd(20001, long+"x\nendstream"), 7, api.ErrMany)
	noGet(t, atEnd(20001, long+"xx"), 7, api.ErrMany)
	noGet(t, atEnd(20001, long+"x"), 7, api.ErrMany)
	noGet(t, atEnd(20001, long), 7, api.ErrEnd) // there aren't so many: that is told ahead
	noGet(t, atEnd(20002, long+"x"), 7, api.ErrEnd)
	noGet(t, atEnd(20000, long), 7, api.ErrText)
}

// links: objects from 1 on, each a reference to the next one; the last one is a value.
func links(n int, last api.Value) []api.Object {
	var l []api.Object
	for i := 1; i < n; i++ {
		l = append(l, plain(i, ref(i+1)))
	}
	return append(l, plain(n, last))
}

func follows(t *testing.T, f *file.File, v, want api.Value) {
	t.Helper()
	if got, err := f.Follow(v); err != nil || !value.Alike(got, want) {
		t.Errorf("Follow(%v): %v, %v, want %v", v, got, err, want)
	}
}

func noFollow(t *testing.T, f *file.File, v api.Value, want error) {
	t.Helper()
	if got, err := f.Follow(v); err != want || !reflect.DeepEqual(got, api.Value{}) {
		t.Errorf("Follow(%v): %v, %v, want %v alone", v, got, err, want)
	}
}

func TestFollow(t *testing.T) { // F5
	last := dict(field("a", list(num(5000), ref(1))))
	for n := 1; n <= api.MaxChain; n++ {
		f := read(t, built(t, links(n, last)...))
		follows(t, f, ref(1), last)
		f = read(t, built(t, links(n, ref(60))...)) // to one that isn't there: one more is followed
		if n < api.MaxChain {
			follows(t, f, ref(1), api.Value{})
		} else {
			noFollow(t, f, ref(1), api.ErrCycle)
		}
	}
	f := read(t, built(t, links(api.MaxChain+1, last)...))
	noFollow(t, f, ref(1), api.ErrCycle)
	follows(t, f, ref(2), last)
	for n := 1; n < 5; n++ {
		f := read(t, built(t, links(n, ref(1))...))
		noFollow(t, f, ref(n), api.ErrCycle)
	}
	for _, v := range []api.Value{{}, num(5), str("x"), name("a"), list(ref(1)), dict(field("a", ref(1))), {Kind: 99, N: 7, S: "x", L: []api.Value{num(1)}}, {Kind: api.Num, N: math.MaxInt}} {
		follows(t, f, v, v)
	}
	for _, n := range []int{0, -1, 10, 60, 61, math.MinInt, math.MaxInt} {
		follows(t, f, ref(n), api.Value{})
	}
	f = read(t, built(t, stream(1, "abc", field("a", num(0)))))
	follows(t, f, ref(1), dict(field("Length", num(3000)), field("a", num(0))))
	f = read(t, one(7, "7 0 obj ("))
	noFollow(t, f, ref(7), api.ErrEnd)
	noFollow(t, read(t, one(7, "7 0 obj 5 6")), ref(7), api.ErrText)
	noFollow(t, read(t, one(7, "7 0 obj<</a 1/a 1")), ref(7), api.ErrShape)
	noFollow(t, read(t, one(7, "7 0 obj<<>>stream\n")), ref(7), api.ErrKind)
	noFollow(t, read(t, one(7, "7 0 obj 7 0 R endobj")), ref(7), api.ErrCycle)
	s := updated(t, built(t, plain(1, ref(2)), plain(2, num(0))), plain(2, num(5)))
	follows(t, read(t, s), ref(1), num(5))
}

func TestFilters(t *testing.T) { // F5
	f := read(t, built(t, plain(1, name("A")), plain(2, ref(1)), plain(3, list(ref(1), name("B"), ref(2))), plain(4, api.Value{}), plain(5, ref(5)), plain(6, num(5)), plain(7, list()), plain(8, list(ref(3)))))
	for _, c := range []struct {
		filter api.Value
		want   []string
	}{
		{name("A"), []string{"A"}}, {name("x y"), []string{"x y"}}, {ref(1), []string{"A"}}, {ref(2), []string{"A"}}, {ref(3), []string{"A", "B", "A"}}, {ref(4), nil}, {ref(60), nil}, {api.Value{}, nil}, {list(), nil}, {ref(7), nil},
		{list(name("A")), []string{"A"}}, {list(ref(2), name("C")), []string{"A", "C"}}, {list(name("C"), name("C"), name("C")), []string{"C", "C", "C"}}, {list(slices.Repeat([]api.Value{ref(1)}, 20)...), slices.Repeat([]string{"A"}, 20)},
	} {
		for _, o := range objects(plain(9, dict(field("Filter", c.filter))), stream(9, "", field("Filter", c.filter)), stream(0, "x", field("A", num(0)), field("Filter", c.filter), field("Z", num(0)))) {
			if got, err := f.Filters(o); err != nil || !slices.Equal(got, c.want) {
				t.Errorf("Filters of %v: %q, %v, want %q", o, got, err, c.want)
			}
		}
	}
	for _, c := range []struct {
		filter api.Value
		want   error
	}{
		{num(0), api.ErrKind}, {str("A"), api.ErrKind}, {dict(), api.ErrKind}, {api.Value{Kind: api.Flag}, api.ErrKind}, {ref(6), api.ErrKind}, {ref(5), api.ErrCycle}, {list(num(0)), api.ErrKind}, {list(name("A"), str("A")), api.ErrKind},
		{list(name("A"), api.Value{}), api.ErrKind}, {list(ref(4)), api.ErrKind}, {list(ref(60)), api.ErrKind}, {list(list(name("A"))), api.ErrKind}, {list(list()), api.ErrKind}, {list(ref(3)), api.ErrKind}, {ref(8), api.ErrKind},
		{list(name("A"), ref(5), num(0)), api.ErrCycle}, {list(num(0), ref(5)), api.ErrKind}, {api.Value{Kind: 9}, api.ErrKind}, {api.Value{Kind: -4}, api.ErrKind},
	} {
		if got, err := f.Filters(stream(1, "", field("Filter", c.filter))); err != c.want || len(got) != 0 {
			t.Errorf("Filters of %v: %q, %v, want %v alone", c.filter, got, err, c.want)
		}
	}
	for _, o := range objects(api.Object{}, plain(1, dict()), plain(1, name("Filter")), stream(1, "x", field("filter", name("A"))), plain(1, dict(field("A", dict(field("Filter", name("A"))))))) {
		if got, err := f.Filters(o); err != nil || len(got) != 0 {
			t.Errorf("Filters of %v: %q, %v", o, got, err)
		}
	}
	broken := read(t, one(7, "7 0 obj 1"))
	for _, v := range []api.Value{ref(7), list(ref(7)), list(name("A"), ref(7))} {
		if got, err := broken.Filters(stream(1, "", field("Filter", v))); err != api.ErrText || len(got) != 0 {
			t.Errorf("Filters of %v: %q, %v", v, got, err)
		}
	}
}

func noData(t *testing.T, f *file.File, n int, want error) {
	t.Helper()
	if s, err := f.Data(n); s != "" || err != want {
		t.Errorf("Data(%d): %.200q, %v, want %v alone", n, s, err, want)
	}
}

func TestData(t *testing.T) { // F5
	hexes, runs := name("ASCIIHexDecode"), name("RunLengthDecode")
	chained, err := filter.Make([]string{"ASCIIHexDecode", "RunLengthDecode"}, "aaaab")
	if err != nil {
		t.Fatal(err)
	}
	often, err := filter.Make(slices.Repeat([]string{"ASCIIHexDecode"}, 8), "ab")
	if err != nil {
		t.Fatal(err)
	}
	f := read(t, built(t,
		stream(1, "abc"), stream(2, "61 62>", field("Filter", hexes)), stream(3, chained, field("Filter", list(hexes, ref(9)))), stream(4, "61", field("Filter", hexes)), stream(5, "x", field("Filter", name("x"))), stream(6, "x", field("Filter", num(0))),
		stream(7, "x", field("Filter", ref(8))), plain(8, ref(8)), plain(9, runs), plain(10, dict()), stream(11, "", field("Filter", list(slices.Repeat([]api.Value{hexes}, 9)...))), stream(12, "61>", field("Filter", api.Value{})), stream(13, ""),
		stream(14, strings.Repeat("\x81x", 200)+"\x80", field("Filter", runs)), stream(15, "3E>", field("Filter", list(hexes, hexes))), stream(16, often, field("Filter", list(slices.Repeat([]api.Value{hexes}, 8)...)))))
	for n, want := range map[int]string{1: "abc", 2: "ab", 3: "aaaab", 12: "61>", 13: "", 15: "", 16: "ab"} {
		if s, err := f.Data(n); s != want || err != nil {
			t.Errorf("Data(%d): %q, %v, want %q", n, s, err, want)
		}
	}
	for n, want := range map[int]error{
		0: api.ErrNone, -1: api.ErrNone, 17: api.ErrNone, 61: api.ErrNone, 8: api.ErrKind, 9: api.ErrKind, 10: api.ErrKind, 4: api.ErrEnd, 5: api.ErrFilter, 6: api.ErrKind, 7: api.ErrCycle, 11: api.ErrMany, 14: api.ErrMany,
	} {
		noData(t, f, n, want)
	}
	noData(t, read(t, one(7, "7 0 obj (")), 7, api.ErrEnd)
	noData(t, read(t, one(7, "7 0 obj <<>> stream\n")), 7, api.ErrKind)
	noData(t, read(t, one(7, "7 0 obj <</Length 1>> stream\n")), 7, api.ErrText)
	noData(t, read(t, one(7, "7 0 obj <</Filter 5/Length 1>> stream\nxendstrea")), 7, api.ErrText)
	long := strings.Repeat("x", api.MaxData)
	if s, err := read(t, built(t, stream(7, long))).Data(7); s != long || err != nil {
		t.Errorf("Data of %d bytes: %d, %v", len(long), len(s), err)
	}
}

// drawn: a value that may be, or nearly so.
func drawn(r *rand.Rand, deep int) api.Value {
	switch k := r.Intn(9); {
	case k == 0:
		return api.Value{}
	case k == 1:
		return num(r.Intn(2*api.MaxFix) - api.MaxFix)
	case k == 2:
		return ref(1 + r.Intn(60))
	case k == 3 || deep > 5:
		return str(bytesOf(r, 12))
	case k == 4:
		return name("n" + strings.ReplaceAll(bytesOf(r, 5), "\x00", "y"))
	case k == 5:
		return api.Value{Kind: api.Flag, N: r.Intn(2)}
	case k == 6:
		v := list()
		for range r.Intn(5) {
			v.L = append(v.L, drawn(r, deep+1))
		}
		return v
	}
	return dictOf(r, deep)
}

func dictOf(r *rand.Rand, deep int) api.Value {
	v := dict()
	for range r.Intn(4) {
		v = value.Set(v, string(rune('A'+r.Intn(20))), drawn(r, deep+1))
	}
	return v
}

func bytesOf(r *rand.Rand, most int) string {
	b := make([]byte, r.Intn(most+1))
	for i := range b {
		b[i] = "abz ()<>[]{}/%#\\\n\r\x00\x7f\xff0"[r.Intn(22)]
	}
	return string(b)
}

// drawnObjects: some of the objects, in any order, no two of one number.
func drawnObjects(r *rand.Rand) []api.Object {
	var l []api.Object
	for _, n := range r.Perm(api.MaxObject)[:r.Intn(20)] {
		o := plain(n+1, drawn(r, 1))
		if r.Intn(3) == 0 {
			o = api.Object{N: n + 1, V: dictOf(r, 1), Stream: true, Data: bytesOf(r, 40)}
		}
		l = append(l, o)
	}
	return l
}

// holds: a file has just these objects.
func holds(t *testing.T, s string, want map[int]api.Object) {
	t.Helper()
	f := read(t, s)
	for n := range api.MaxObject + 2 {
		o, err := f.Get(n)
		w, there := want[n]
		if there && w.Stream {
			w.V = value.Set(w.V, "Length", num(1000*len(w.Data)))
		}
		if there != (err == nil) || there != slices.Contains(f.Numbers(), n) || !same(o, w) {
			t.Fatalf("Get(%d): %v, %v, want %v (%v)", n, o, err, w, f.Numbers())
		}
	}
	if l := f.Numbers(); len(l) != len(want) || !slices.IsSorted(l) {
		t.Fatalf("Numbers: %v", l)
	}
}

func TestBack(t *testing.T) { // F1 to F4: what is laid is read; what is laid later is read in its place, all others stay.
	r := rand.New(rand.NewSource(6))
	for range 300 {
		want := map[int]api.Object{}
		l := drawnObjects(r)
		root := 1 + r.Intn(api.MaxObject)
		s, err := file.Build(l, root)
		for i := 0; err == nil && i < api.MaxChain-1; i++ {
			for _, o := range l {
				want[o.N] = o
			}
			holds(t, s, want)
			if n, err := read(t, s).Root(); n != root || err != nil {
				t.Fatalf("Root: %d, %v, want %d", n, err, root)
			}
			l = drawnObjects(r)
			u := updated(t, s, l...)
			if !strings.HasPrefix(u, s) {
				t.Fatalf("Update changed what was there: %q", u)
			}
			s = u
		}
		if err != nil {
			t.Fatal(err)
		}
	}
}

// all that a file answers, as a text; errors have nothing beside them.
func answers(t *testing.T, s string) string {
	t.Helper()
	f, err := file.Read(s)
	if err != nil {
		if _, is := err.(api.Errno); !is || f != nil {
			t.Fatalf("Read(%q): %v, %v", s, f, err)
		}
		return fmt.Sprint(err)
	}
	n, err := f.Root()
	w := fmt.Sprint(f.Numbers(), n, err)
	for n := range 12 {
		o, e1 := f.Get(n)
		d, e2 := f.Data(n)
		v, e3 := f.Follow(ref(n))
		l, e4 := f.Filters(o)
		if e1 != nil && !reflect.DeepEqual(o, api.Object{}) || e2 != nil && d != "" || e3 != nil && !reflect.DeepEqual(v, api.Value{}) || e4 != nil && len(l) > 0 {
			t.Fatalf("of %q, %d: %v, %v; %q, %v; %v, %v; %v, %v", s, n, o, e1, d, e2, v, e3, l, e4)
		}
		w += fmt.Sprint(o, e1, d, e2, v, e3, l, e4)
	}
	return w
}

func TestSpoiled(t *testing.T) { // Z1: every call ends, at all texts; what it answers hangs on them alone.
	r := rand.New(rand.NewSource(7))
	s := built(t, plain(1, ref(2)), stream(2, "61 62>", field("Filter", ref(3))), plain(3, list(name("ASCIIHexDecode"))), stream(5, "abc"), plain(6, ref(6)))
	s = updated(t, s, plain(1, num(5)), stream(7, "x", field("Filter", ref(6))), plain(8, list(ref(1))))
	for range 20000 {
		b := []byte(s)
		for range 1 + r.Intn(3) {
			at := r.Intn(len(b))
			switch r.Intn(3) {
			case 0:
				b[at] = "0123456789 nf\nxR<>[]()%/"[r.Intn(24)]
			case 1:
				b = append(b[:at], b[at+1:]...)
			case 2:
				b = slices.Insert(b, at, "0123456789 nf\nxR<>[]()%/"[r.Intn(24)])
			}
		}
		u := string(b)
		if one, two := answers(t, u), answers(t, u); one != two {
			t.Fatalf("of %q: %s, then %s", u, one, two)
		}
	}
	for end := range len(s) {
		answers(t, s[:end])
	}
}

func TestFresh(t *testing.T) { // Z2
	objs := objects(plain(2, list(num(1000), list(num(2000)))), stream(1, "x", field("A", list(num(1000))), field("Filter", list(name("A")))))
	full := append(slices.Clone(objs), plain(0, num(0)))[:2] // what stands behind a list isn't read
	s := built(t, full...)
	f := read(t, s)
	o, _ := f.Get(1)
	o.V.F[0].V.L[0].N = 7
	o.V.F[0].Name = "B"
	gets(t, s, api.Object{N: 1, V: dict(field("A", list(num(1000))), field("Filter", list(name("A"))), field("Length", num(1000))), Stream: true, Data: "x"})
	if o, err := f.Get(1); err != nil || o.V.F[0].Name != "A" || o.V.F[0].V.L[0].N != 1000 {
		t.Errorf("Get: %v, %v", o, err)
	}
	v, _ := f.Follow(ref(2))
	v.L[1].L[0].N = 7
	follows(t, f, ref(2), objs[0].V)
	w, _ := f.Follow(objs[0].V)
	w.L[0].N, w.L[1].L[0].N = 7, 7
	if objs[0].V.L[0].N != 1000 || objs[0].V.L[1].L[0].N != 2000 {
		t.Errorf("Follow handed out what it was given: %v", objs[0].V)
	}
	l := f.Numbers()
	l[0], l[1] = 9, 9
	if l := f.Numbers(); !slices.Equal(l, []int{1, 2}) {
		t.Errorf("Numbers: %v", l)
	}
	names, _ := f.Filters(o)
	if len(names) > 0 {
		names[0] = "x"
	}
	if again, err := f.Filters(objs[1]); err != nil || !slices.Equal(again, []string{"A"}) {
		t.Errorf("Filters: %q, %v", again, err)
	}
	objs[1].V.F[0].V.L[0].N = 9
	if o, err := f.Get(1); err != nil || o.V.F[0].V.L[0].N != 1000 {
		t.Errorf("Get: %v, %v", o, err)
	}
}
