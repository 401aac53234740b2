package ops_test

import (
	"fmt"
	"math/rand"
	"slices"
	"strings"
	"testing"

	"foliowright/api"
	"foliowright/ops"
	"foliowright/value"
)

func num(n int) api.Value                   { return api.Value{Kind: api.Num, N: n} }
func str(s string) api.Value                { return api.Value{Kind: api.Str, S: s} }
func name(s string) api.Value               { return api.Value{Kind: api.Name, S: s} }
func ref(n int) api.Value                   { return api.Value{Kind: api.Ref, N: n} }
func flag(n int) api.Value                  { return api.Value{Kind: api.Flag, N: n} }
func list(l ...api.Value) api.Value         { return api.Value{Kind: api.List, L: l} }
func dict(f ...api.Field) api.Value         { return api.Value{Kind: api.Dict, F: f} }
func field(n string, v api.Value) api.Field { return api.Field{Name: n, V: v} }

// op of a page, behind these values.
func op(n string, args ...api.Value) api.Op { return api.Op{Name: n, Args: args} }

// told: operators in a row.
func told(l ...api.Op) []api.Op { return l }

// alike: are both the same operators, behind the same values?
func alike(a, b []api.Op) bool {
	if len(a) != len(b) {
		return false
	}
	for i := range a {
		if a[i].Name != b[i].Name || !value.Alike(list(a[i].Args...), list(b[i].Args...)) {
			return false
		}
	}
	return true
}

// reads: s is read as these operators.
func reads(t *testing.T, s string, want []api.Op) {
	t.Helper()
	l, err := ops.Parse(s)
	if err != nil || !alike(l, want) {
		t.Errorf("Parse(%.300q): %.300s, %v, want %.300s", s, fmt.Sprint(l), err, fmt.Sprint(want))
	}
}

// noRead: reading s tells this error, and nothing besides.
func noRead(t *testing.T, s string, want error) {
	t.Helper()
	if l, err := ops.Parse(s); err != want || len(l) != 0 {
		t.Errorf("Parse(%.300q): %.300s, %v, want %v alone", s, fmt.Sprint(l), err, want)
	}
}

// writes: operators are written as this text.
func writes(t *testing.T, l []api.Op, want string) {
	t.Helper()
	if s, err := ops.Write(l); err != nil || s != want {
		t.Errorf("Write(%.300s): %.300q, %v, want %.300q", fmt.Sprint(l), s, err, want)
	}
}

// noWrite: writing operators tells this error, and nothing besides.
func noWrite(t *testing.T, l []api.Op, want error) {
	t.Helper()
	if s, err := ops.Write(l); err != want || s != "" {
		t.Errorf("Write(%.300s): %.300q, %v, want %v alone", fmt.Sprint(l), s, err, want)
	}
}

func TestNames(t *testing.T) { // H1
	for _, n := range strings.Fields(`a z A Z q Tj T* ' " * '' "" *' ** '1 "2 *9 d0 d1 a1b2 a0000009 Abcdefgh zzzzzzzz T******* '"*'"*'" True TRUE tru truex xtrue
		nul nulls Null False falsey fals true1 null* false' R obj endobj stream BX e5 E5 x0 inf NaN Infinity`) {
		reads(t, n, told(op(n)))
		reads(t, "1 "+n+" ", told(op(n, num(1000))))
		writes(t, told(op(n)), n+"\n")
		writes(t, told(op(n, num(1000))), "1 "+n+"\n")
	}
	for _, n := range []string{
		"", "abcdefghi", "T********", "toolongname", strings.Repeat("x", 300), "5x", "0", "9", "1d", "12345678", "true", "false", "null", "a b", " a", "a ", "a\n", "\na", "a.", ".a", "-a",
		"a-", "a_b", "_", "a#", "a\\", "a+", "a,b", "a;", "é", "aé", "\xff", "a\xff", "a\x00", "\x00", "a/b", "/a", "(a)", "a(", "<a>", "[a]", "{a}", "a%", "a!", "a&", "a^", "a`", "a~", "a@", "a$",
		"truefalse", "nullnulln",
	} {
		noWrite(t, told(op(n)), api.ErrShape)
	}
	for _, n := range []string{"abcdefghi", "T********", "toolongname", strings.Repeat("x", 300), "5x", "1d", "a.", ".a", "-a", "a-", "a_b", "a#", "é", "a\xff", "a\x01", "truefalse"} {
		noRead(t, n, api.ErrText)
		noRead(t, "q "+n+" q", api.ErrText)
	}
}

func TestNameBytes(t *testing.T) { // H1
	for c := range 256 {
		b := byte(c)
		digit := '0' <= b && b <= '9'
		first := 'a' <= b && b <= 'z' || 'A' <= b && b <= 'Z' || b == '*' || b == '\'' || b == '"'
		for _, n := range []struct {
			s   string
			may bool
		}{
			{string([]byte{b}), first}, {string([]byte{b, 'a'}), first}, {string([]byte{'a', b}), first || digit}, {string([]byte{'*', b, '*'}), first || digit},
			{string([]byte{b, 'a', 'b', 'c', 'd', 'e', 'f', 'g'}), first}, {string([]byte{'a', 'b', 'c', 'd', 'e', 'f', 'g', b}), first || digit},
		} {
			if !n.may {
				noWrite(t, told(op(n.s)), api.ErrShape)
				if l, _ := ops.Parse(n.s); alike(l, told(op(n.s))) {
					t.Errorf("Parse(%q): %v", n.s, l)
				}
				continue
			}
			writes(t, told(op(n.s)), n.s+"\n")
			reads(t, n.s, told(op(n.s)))
		}
	}
}

func TestParse(t *testing.T) { // H2
	for s, want := range map[string][]api.Op{
		"": nil, " ": nil, "\x00\t\n\f\r ": nil, "%note": nil, "%note\n": nil, " % 1 Tj\r\n": nil,
		"q": told(op("q")), "q Q": told(op("q"), op("Q")), "q\nQ\n": told(op("q"), op("Q")), "qQ": told(op("qQ")),
		"BT /F0 10 Tf (ab)Tj ET": told(op("BT"), op("Tf", name("F0"), num(10000)), op("Tj", str("ab")), op("ET")),
		"1 0 0 1 50 700.5 Tm":    told(op("Tm", num(1000), num(0), num(0), num(1000), num(50000), num(700500))),
		"1 2 3 4 5 6 7 8 x":      told(op("x", num(1000), num(2000), num(3000), num(4000), num(5000), num(6000), num(7000), num(8000))),
		"(a)'":                   told(op("'", str("a"))), "1 2(a)\"": told(op("\"", num(1000), num(2000), str("a"))), "T*T*": told(op("T*T*")), "T* T*": told(op("T*"), op("T*")), "*'\"": told(op("*'\"")),
		"<6162>Tj[1(a)]TJ/F0 gs": told(op("Tj", str("ab")), op("TJ", list(num(1000), str("a"))), op("gs", name("F0"))),
		"true set":               told(op("set", flag(1))), "false set": told(op("set", flag(0))), "null set": told(op("set", api.Value{})), "true false null x": told(op("x", flag(1), flag(0), api.Value{})),
		"3 0 R x": told(op("x", ref(3))), "3 0 Rx": told(op("Rx", num(3000), num(0))), "0 0 R": told(op("R", num(0), num(0))), "3 1 R": told(op("R", num(3000), num(1000))), "R": told(op("R")),
		"61 0 R": told(op("R", num(61000), num(0))), "03 0 R": told(op("R", num(3000), num(0))), "3 0 q R": told(op("q", num(3000), num(0)), op("R")),
		"<</a 1/b[true]>>dp": told(op("dp", dict(field("a", num(1000)), field("b", list(flag(1)))))), "<<>>BDC": told(op("BDC", dict())), "[]d": told(op("d", list())),
		"1 % 2 Tj\n3 %\r q": told(op("q", num(1000), num(3000))), "%\n%q\nQ%": told(op("Q")), "q%Q\rQ": told(op("q"), op("Q")), "q%Q": told(op("q")), "\x00q\fQ\t": told(op("q"), op("Q")),
		"q(%)Tj": told(op("q"), op("Tj", str("%"))),
		"-.5 x":  told(op("x", num(-500))), "+5.25 d0": told(op("d0", num(5250))), "(q Q)Tj": told(op("Tj", str("q Q"))), "/q Q": told(op("Q", name("q"))), "/true/null x": told(op("x", name("true"), name("null"))),
		"1 q 2 3 q q": told(op("q", num(1000)), op("q", num(2000), num(3000)), op("q")),
	} {
		reads(t, s, want)
		reads(t, " \n%x\r"+s, want)
		reads(t, s+"\n%x", want)
		reads(t, s+"\r\n q", append(told(want...), op("q")))
	}
}

func TestParseBytes(t *testing.T) { // H2
	full := strings.Repeat(" ", api.MaxData-1) + "q"
	reads(t, full, told(op("q")))
	noRead(t, full+" ", api.ErrMany)
	noRead(t, " "+full, api.ErrMany)
	reads(t, "q"+strings.Repeat("\n", api.MaxData-1), told(op("q")))
	noRead(t, "q"+strings.Repeat("\n", api.MaxData), api.ErrMany)
	reads(t, "q%"+strings.Repeat("x", api.MaxData-2), told(op("q")))
	noRead(t, strings.Repeat("x", api.MaxFile+1), api.ErrMany)
	// Ahead of all that stands in it.
	for _, s := range []string{"1", ")", "(", "1 2 3 4 5 6 7 8 9", "[", "5x"} {
		noRead(t, s+strings.Repeat(" ", api.MaxData), api.ErrMany)
	}
	noRead(t, strings.Repeat("x ", api.MaxData/2), api.ErrMany) // of operators, as it happens
}

func TestParseMany(t *testing.T) { // H2
	full := strings.Repeat("q ", api.MaxOps)
	var want []api.Op
	for range api.MaxOps {
		want = append(want, op("q"))
	}
	reads(t, full, want)
	reads(t, full+" %q\n", want)
	noRead(t, full+"q", api.ErrMany)
	noRead(t, full+"1 q", api.ErrMany)
	noRead(t, full+"q )", api.ErrMany)
	noRead(t, full+"q 1", api.ErrMany)
	noRead(t, full+"1", api.ErrEnd)
	noRead(t, full+")", api.ErrText)
	noRead(t, full+") q", api.ErrText)
	noRead(t, full+"(", api.ErrEnd)
	noRead(t, full+"1 2 3 4 5 6 7 8 9 q", api.ErrStack)
	noRead(t, full+"true", api.ErrEnd)
	noRead(t, strings.Repeat("1 ", api.MaxStack+1)+full+"q", api.ErrStack)
}

func TestParseStack(t *testing.T) { // H2
	eight := strings.Repeat("1 ", api.MaxStack)
	var want []api.Value
	for range api.MaxStack {
		want = append(want, num(1000))
	}
	reads(t, eight+"q", told(op("q", want...)))
	reads(t, eight+"q "+eight+"Q", told(op("q", want...), op("Q", want...)))
	for _, v := range []string{"1", "true", "null", "/a", "(a)", "<>", "[]", "[1 2]", "<<>>", "3 0 R"} {
		noRead(t, eight+v, api.ErrStack)
		noRead(t, eight+v+" q", api.ErrStack)
		noRead(t, "q "+eight+v+" )", api.ErrStack)
	}
	// The error of a ninth value is told ahead of that it is one too many.
	for s, err := range map[string]error{")": api.ErrText, "(a": api.ErrEnd, "[1": api.ErrEnd, "/": api.ErrText, "5x": api.ErrText, "<</a 1/a 1>>": api.ErrShape, "[[[[[[[[[": api.ErrMany, "9999999999": api.ErrBound} {
		noRead(t, eight+s, err)
	}
	noRead(t, eight, api.ErrEnd)
	noRead(t, eight+"%q", api.ErrEnd)
	reads(t, "[1 2 3 4 5 6 7 8 9]q", told(op("q", list(num(1000), num(2000), num(3000), num(4000), num(5000), num(6000), num(7000), num(8000), num(9000)))))
}

func TestParseLeft(t *testing.T) { // H2
	for s, v := range map[string]api.Value{
		"1": num(1000), "true": flag(1), "false": flag(0), "null": {}, "/q": name("q"), "(q)": str("q"), "[]": list(), "<<>>": dict(), "<71>": str("q"), "3 0 R": ref(3), "3 0\nR": ref(3), "3%\n0 R": ref(3),
	} {
		noRead(t, s, api.ErrEnd)
		noRead(t, "q "+s+"\x00", api.ErrEnd)
		noRead(t, "q "+s+"%q", api.ErrEnd)
		noRead(t, "1 q 2 "+s+" %q\n", api.ErrEnd)
		reads(t, "1 q 2 "+s+" %q\nq", told(op("q", num(1000)), op("q", num(2000), v)))
	}
}

func TestParseValueErrors(t *testing.T) { // H2
	long := strings.Repeat("x", api.MaxBytes+1)
	for s, want := range map[string]error{
		")": api.ErrText, "]": api.ErrText, ">": api.ErrText, ">>": api.ErrText, "{": api.ErrText, "}": api.ErrText, "{}": api.ErrText, "/": api.ErrText, "/ q": api.ErrText, "/#0": api.ErrText, "<g>": api.ErrText,
		"(": api.ErrEnd, "(q": api.ErrEnd, "<": api.ErrEnd, "<6": api.ErrEnd, "[": api.ErrEnd, "[1 2": api.ErrEnd, "<<": api.ErrEnd, "<</a": api.ErrEnd, "(\\)": api.ErrEnd,
		"(" + long + ")": api.ErrMany, "[[[[[[[[[]]]]]]]]]": api.ErrMany, "[" + strings.Repeat("1 ", 301) + "]": api.ErrMany, "[" + strings.Repeat("1 ", 300) + "]": api.ErrMany, "/" + long: api.ErrText,
		"<</a 1/a 2>>": api.ErrShape, "<<1 2>>": api.ErrText, "[q]": api.ErrText, "[true Tj]": api.ErrText, "<</a q>>": api.ErrText, "1000000.001": api.ErrBound, "--5": api.ErrText, "1.2.3": api.ErrText, "1e5": api.ErrText,
		"\\": api.ErrText, "0x10": api.ErrText, "5x": api.ErrText, "a.b": api.ErrText, "toolongname": api.ErrText,
	} {
		noRead(t, s, want)
		noRead(t, "q 1 "+s, want)
		noRead(t, "\n%x\n"+s, want)
	}
	// What comes first is told first, whatever is behind it.
	noRead(t, ") 1 2 3 4 5 6 7 8 9", api.ErrText)
	noRead(t, "1 2 3 4 5 6 7 8 9 )", api.ErrStack)
	noRead(t, "1000000.001 )", api.ErrBound)
	noRead(t, ") 1000000.001", api.ErrText)
	noRead(t, "1 )", api.ErrText)
}

func TestWrite(t *testing.T) { // H3
	writes(t, nil, "")
	writes(t, told(), "")
	writes(t, told(op("q")), "q\n")
	writes(t, told(op("q"), op("Q")), "q\nQ\n")
	writes(t, told(op("Tj", str("a(b"))), "(a\\(b) Tj\n")
	writes(t, told(op("BT"), op("Tf", name("F 0"), num(10500)), op("TJ", list(str("a"), num(-250), str("b"))), op("'", str("c")), op("T*"), op("ET")),
		"BT\n/F#200 10.5 Tf\n[(a) -0.25 (b)] TJ\n(c) '\nT*\nET\n")
	writes(t, told(op("x", api.Value{}, flag(0), flag(1), num(1), ref(7), dict(field("a", list())), name("n"), str(""))), "null false true 0.001 7 0 R << /a [] >> /n () x\n")
}

func TestWriteWrong(t *testing.T) { // H3
	nine := make([]api.Value, api.MaxStack+1)
	writes(t, told(op("x", nine[1:]...)), "null null null null null null null null x\n")
	noWrite(t, told(op("x", nine...)), api.ErrStack)
	noWrite(t, told(op("q"), op("x", nine...), op("q")), api.ErrStack)
	deep := num(1)
	for range api.MaxDeep {
		deep = list(deep)
	}
	many := list(make([]api.Value, api.MaxParts)...)
	for _, c := range []struct {
		v    api.Value
		want error
	}{
		{num(api.MaxFix + 1), api.ErrShape}, {str(strings.Repeat("x", 201)), api.ErrShape}, {name(""), api.ErrShape}, {ref(0), api.ErrShape}, {flag(2), api.ErrShape}, {api.Value{Kind: 8}, api.ErrShape},
		{dict(field("b", num(0)), field("a", num(0))), api.ErrShape}, {deep, api.ErrMany}, {many, api.ErrMany}, {list(flag(3), deep), api.ErrMany}, {api.Value{Kind: -1, L: many.L}, api.ErrMany},
	} {
		noWrite(t, told(op("q", c.v)), c.want)
		noWrite(t, told(op("q"), op("q", num(1), c.v, num(2)), op("q")), c.want)
		// Where several apply: the name, how many there are, the values; all of one operator ahead of the next one's.
		noWrite(t, told(op("", c.v)), api.ErrShape)
		noWrite(t, told(op("5", append([]api.Value{c.v}, nine...)...)), api.ErrShape)
		noWrite(t, told(op("q", append([]api.Value{c.v}, nine[1:]...)...)), api.ErrStack)
		noWrite(t, told(op("q", c.v), op("")), c.want)
		noWrite(t, told(op("q", c.v), op("q", nine...)), c.want)
		noWrite(t, told(op("q", nine...), op("q", c.v)), api.ErrStack)
	}
	noWrite(t, told(op("q", deep, name(""))), api.ErrMany)
	noWrite(t, told(op("q", name(""), deep)), api.ErrShape)
	noWrite(t, told(op("", deep)), api.ErrShape)
	noWrite(t, told(op(""), op("q", nine...)), api.ErrShape)
	noWrite(t, told(op("q", nine...), op("")), api.ErrStack)
}

func TestWriteMany(t *testing.T) { // H3
	var l []api.Op
	for range api.MaxOps {
		l = append(l, op("q"))
	}
	writes(t, l, strings.Repeat("q\n", api.MaxOps))
	noWrite(t, append(l, op("q")), api.ErrMany)
	// Ahead of all that stands in them.
	noWrite(t, append([]api.Op{op("", make([]api.Value, 9)...)}, l...), api.ErrMany)
	noWrite(t, append([]api.Op{op("")}, l[1:]...), api.ErrShape)
	noWrite(t, append([]api.Op{op("q", make([]api.Value, 9)...)}, l...), api.ErrMany)
}

func TestWriteBytes(t *testing.T) { // H3
	long := op("Tj", str(strings.Repeat("x", 195))) // 201 bytes
	var l []api.Op
	for range 99 {
		l = append(l, long)
	}
	last := func(n int) []api.Op { return append(told(l...), op("Tj", str(strings.Repeat("x", n)))) }
	if s, err := ops.Write(l); err != nil || len(s) != 99*201 {
		t.Fatalf("Write: %d, %v", len(s), err)
	}
	rest := api.MaxData - 99*201 - 6
	if s, err := ops.Write(last(rest)); err != nil || len(s) != api.MaxData {
		t.Errorf("Write, to the last byte: %d, %v", len(s), err)
	} else {
		reads(t, s, last(rest))
	}
	noWrite(t, last(rest+1), api.ErrMany)
	noWrite(t, append(last(rest), op("q")), api.ErrMany)
	noWrite(t, append(last(195), last(195)...), api.ErrMany)
	// Too many bytes are told last: what is wrong with any operator is told ahead of that.
	for i, want := range map[int]error{0: api.ErrShape, 99: api.ErrStack, 150: api.ErrMany} {
		x := append(last(195), last(195)...)
		x[i] = []api.Op{0: op("5"), 99: op("q", make([]api.Value, 9)...), 150: op("q", list(make([]api.Value, 300)...))}[i]
		noWrite(t, x, want)
	}
	x := append(last(195), last(195)...)
	noWrite(t, append(x, op("q", num(api.MaxFix+1))), api.ErrShape)
	noWrite(t, append(x, op("")), api.ErrShape)
	noWrite(t, append(x, op("q", make([]api.Value, 9)...)), api.ErrStack)
	// One operator alone can be too long.
	great := list()
	for range 100 {
		great.L = append(great.L, str(strings.Repeat("x", 200)))
	}
	noWrite(t, told(op("TJ", great)), api.ErrMany)
	noWrite(t, told(op("TJ", great), op("5")), api.ErrShape)
}

// nameOf: what may be an operator's.
func nameOf(d *rand.Rand) string {
	const first = "abcxyzABCXYZTj*'\""
	for {
		b := []byte{first[d.Intn(len(first))]}
		for range d.Intn(8) {
			b = append(b, (first + "0123456789")[d.Intn(len(first)+10)])
		}
		if s := string(b); s != "true" && s != "false" && s != "null" {
			return s
		}
	}
}

// some value that may be.
func some(d *rand.Rand, deep int) api.Value {
	k := d.Intn(8)
	if deep > 4 {
		k = d.Intn(6)
	}
	switch k {
	case 0:
		return api.Value{}
	case 1:
		return flag(d.Intn(2))
	case 2:
		return num([]int{d.Intn(20000) - 9000, 1000 * d.Intn(70), 0, api.MaxFix, -api.MaxFix}[d.Intn(5)])
	case 3:
		return str(bytesOf(d, d.Intn(9)))
	case 4:
		return name(strings.ReplaceAll(bytesOf(d, 1+d.Intn(5)), "\x00", "n"))
	case 5:
		return ref(1 + d.Intn(api.MaxObject))
	case 6:
		v := list()
		for range d.Intn(4) {
			v.L = append(v.L, some(d, deep+1))
		}
		return v
	}
	v := dict()
	for range d.Intn(4) {
		v = value.Set(v, string(rune('a'+d.Intn(5))), some(d, deep+1))
	}
	return v
}

func bytesOf(d *rand.Rand, n int) string {
	b := make([]byte, n)
	for i := range b {
		const often = "abc01 ()\\<>[]{}/%#\n\r\x00\xff*'\"."
		b[i] = often[d.Intn(len(often))]
		if d.Intn(5) == 0 {
			b[i] = byte(d.Intn(256))
		}
	}
	return string(b)
}

// page: some operators, and how they may stand, with more blanks and notes than there must be.
func page(d *rand.Rand) ([]api.Op, string) {
	gap := func() string {
		return []string{" ", "\n", "\x00\f", "\t%q (\r", "%1 0 R\n", "\r\n", " %)\n%(\n"}[d.Intn(7)]
	}
	var l []api.Op
	s := ""
	for range d.Intn(6) {
		o := op(nameOf(d))
		for range d.Intn(api.MaxStack + 1) {
			v := some(d, 1)
			x, _ := value.Text(v)
			o.Args = append(o.Args, v)
			s += gap() + x
		}
		l = append(l, o)
		s += gap() + o.Name
	}
	return l, s + []string{"", gap(), "%x"}[d.Intn(3)]
}

func TestReadsWhatIsWritten(t *testing.T) { // H2, H3, W5
	d := rand.New(rand.NewSource(8))
	for range 3000 {
		l, loose := page(d)
		s, err := ops.Write(l)
		if err != nil {
			t.Fatalf("Write(%v): %v", l, err)
		}
		reads(t, s, l)
		reads(t, loose, l)
		reads(t, s+loose, append(told(l...), l...))
		writes(t, parsed(t, loose), s)
	}
}

func parsed(t *testing.T, s string) []api.Op {
	t.Helper()
	l, err := ops.Parse(s)
	if err != nil {
		t.Errorf("Parse(%q): %v", s, err)
	}
	return l
}

func TestAnyBytes(t *testing.T) { // Z1, Z3
	d := rand.New(rand.NewSource(9))
	for range 20000 {
		_, s := page(d)
		if d.Intn(3) == 0 {
			s = bytesOf(d, d.Intn(30))
		} else {
			k := d.Intn(len(s) + 1)
			s = s[:k] + bytesOf(d, d.Intn(3)) + s[k:]
		}
		l, err := ops.Parse(s)
		if err != nil {
			if _, is := err.(api.Errno); !is || len(l) != 0 {
				t.Errorf("Parse(%q): %v, %T", s, l, err)
			}
			continue
		}
		x, err := ops.Write(l)
		if err != nil {
			t.Errorf("Write(%v): %v", l, err)
		}
		// Behind two numbers an operator of this name may be a reference, once it is written.
		if !slices.ContainsFunc(l, func(o api.Op) bool { return o.Name == "R" }) {
			reads(t, x, l)
		}
	}
}

func TestAnyOps(t *testing.T) { // Z1
	d := rand.New(rand.NewSource(10))
	self := list(num(1), num(2))
	self.L[1] = self
	self.L[1].L = self.L
	for range 3000 {
		l, _ := page(d)
		for i := range l {
			switch d.Intn(6) {
			case 0:
				l[i].Name = bytesOf(d, d.Intn(10))
			case 1:
				l[i].Args = append(l[i].Args, api.Value{Kind: d.Intn(12) - 2, N: d.Int() - d.Int(), S: bytesOf(d, d.Intn(3))})
			case 2:
				l[i].Args = append(l[i].Args, self)
			}
		}
		s, err := ops.Write(l)
		if _, is := err.(api.Errno); err != nil && (!is || s != "") {
			t.Errorf("Write(%.300s): %q, %T", fmt.Sprint(len(l)), s, err)
		}
		if err == nil {
			reads(t, s, l)
		}
	}
}

func TestFresh(t *testing.T) { // Z2
	const s = "[1] 2 q [1] 2 3 Q q [1][1]x"
	l := parsed(t, s)
	again := parsed(t, s)
	for _, i := range []int{0, 2} {
		args := l[i].Args[:cap(l[i].Args)]
		for k := range args {
			if k < len(l[i].Args) {
				spoil(args[k].L)
			}
			args[k] = str("spoilt")
		}
	}
	spoil(l[3].Args[0].L)
	if !alike(l[1:2], again[1:2]) || !value.Alike(l[3].Args[1], list(num(1000))) {
		t.Errorf("two lists share memory: %v", l)
	}
	if !alike(again, parsed(t, s)) {
		t.Errorf("two answers share memory: %v", again)
	}
}

func spoil(l []api.Value) {
	l = l[:cap(l)]
	for i := range l {
		l[i] = str("spoilt")
	}
}

func TestUnchanged(t *testing.T) { // Z2
	back := []api.Value{list(num(1000)), num(2000), str("behind")}
	hidden := []api.Op{op("q", back[:2]...), op("Q"), op("")}
	l := hidden[:2]
	for range 2 {
		writes(t, l, "[1] 2 q\nQ\n")
		if !alike(hidden, told(op("q", list(num(1000)), num(2000)), op("Q"), op(""))) || !value.Alike(back[2], str("behind")) {
			t.Errorf("Write changed what it was given: %v, %v", hidden, back)
		}
	}
}
