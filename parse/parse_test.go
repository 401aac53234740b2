package parse_test

import (
	"fmt"
	"math"
	"math/rand"
	"strings"
	"testing"

	"foliowright/api"
	"foliowright/parse"
	"foliowright/value"
)

func num(n int) api.Value                   { return api.Value{Kind: api.Num, N: n} }
func str(s string) api.Value                { return api.Value{Kind: api.Str, S: s} }
func name(s string) api.Value               { return api.Value{Kind: api.Name, S: s} }
func ref(n int) api.Value                   { return api.Value{Kind: api.Ref, N: n} }
func flag(n int) api.Value                  { return api.Value{Kind: api.Flag, N: n} }
func list(l ...api.Value) api.Value         { return api.Value{Kind: api.List, L: l} }
func dict(f ...api.Field) api.Value         { return api.Value{Kind: api.Dict, F: f} }
func field(n string, v api.Value) api.Field { return api.Field{Name: n, V: v} }

const blanks = "\x00\t\n\f\r "

func TestBlank(t *testing.T) { // C1
	for c := range 256 {
		want := c == 0 || c == 9 || c == 10 || c == 12 || c == 13 || c == 32
		if got := parse.Blank(byte(c)); got != want {
			t.Errorf("Blank(%d): %v", c, got)
		}
	}
}

func TestHex(t *testing.T) { // C1
	for c := range 256 {
		want := -1
		if at := strings.IndexByte("0123456789abcdef", byte(c)); at >= 0 {
			want = at
		} else if at := strings.IndexByte("ABCDEF", byte(c)); at >= 0 {
			want = 10 + at
		}
		if got := parse.Hex(byte(c)); got != want {
			t.Errorf("Hex(%d): %d, want %d", c, got, want)
		}
	}
}

func TestSkip(t *testing.T) { // C1
	for _, c := range []struct {
		s        string
		at, want int
	}{
		{"", 0, 0}, {"", 5, 0}, {"", -5, 0}, {"a", 0, 0}, {"a", 1, 1}, {"a", 2, 1}, {"a", math.MaxInt, 1}, {"a", math.MinInt, 0},
		{blanks + "a", 0, 6}, {blanks + "a", 3, 6}, {blanks, 0, 6}, {"a b", 0, 0}, {"a b", 1, 2}, {"\va", 0, 0}, {"\x85", 0, 0}, {"\xa0", 0, 0},
		{"  x", -1, 2}, {"%c\n5", 0, 3}, {"%c\r5", 0, 3}, {"%c\r\n5", 0, 4}, {"%c", 0, 2}, {"%", 0, 1}, {"%c\n", 0, 3}, {"%c\n5", 1, 1}, {"%c\n5", 2, 3},
		{"%c\n%d\n e", 0, 7}, {"%c\f\x00 \t5\n7", 0, 8}, {" %a%b\n\n\r%\n(", 0, 10}, {"%\n5", 0, 2}, {"%%\n%\r/", 0, 5}, {"%(\n)", 0, 3}, {"%\\\n)", 0, 3},
		{"(%)", 0, 0}, {"/%", 1, 2},
	} {
		if got := parse.Skip(c.s, c.at); got != c.want {
			t.Errorf("Skip(%q, %d): %d, want %d", c.s, c.at, got, c.want)
		}
	}
}

func TestWord(t *testing.T) { // C1
	for _, c := range []struct {
		s    string
		at   int
		want string
	}{
		{"", 0, ""}, {"", 3, ""}, {"", -3, ""}, {"abc", 0, "abc"}, {"abc", 1, "bc"}, {"abc", 3, ""}, {"abc", 4, ""}, {"abc", math.MaxInt, ""},
		{"abc d", -1, "abc"}, {"abc d", math.MinInt, "abc"}, {"abc d", 3, ""}, {"abc d", 4, "d"}, {" abc", 0, ""}, {"/abc", 0, ""}, {"/abc/d", 1, "abc"},
		{"%abc", 0, ""}, {"a#20\\b\"'.-+~!\xff\x01\x7f\v c", 0, "a#20\\b\"'.-+~!\xff\x01\x7f\v"},
	} {
		if got := parse.Word(c.s, c.at); got != c.want {
			t.Errorf("Word(%q, %d): %q, want %q", c.s, c.at, got, c.want)
		}
	}
	for c := range 256 {
		one := string([]byte{byte(c)})
		want := "a" + one + "b"
		if strings.Contains(blanks+"()<>[]{}/%", one) {
			want = "a"
		}
		if got := parse.Word("a"+one+"b", 0); got != want {
			t.Errorf("Word up to the byte %d: %q", c, got)
		}
	}
}

// reads: s is read as a value from a place on, and ends there.
func reads(t *testing.T, s string, at int, want api.Value, wantEnd int) {
	t.Helper()
	v, end, err := parse.Value(s, at)
	if err != nil || end != wantEnd || !value.Alike(v, want) {
		t.Errorf("Value(%.300q, %d): %.300s, %d, %v, want %.300s, %d", s, at, fmt.Sprint(v), end, err, fmt.Sprint(want), wantEnd)
	}
}

// fails: reading s from a place on tells this error, and nothing besides.
func fails(t *testing.T, s string, at int, want error) {
	t.Helper()
	v, end, err := parse.Value(s, at)
	if err != want || end != 0 || !value.Alike(v, api.Value{}) || v.L != nil || v.F != nil {
		t.Errorf("Value(%.300q, %d): %.300s, %d, %v, want %v alone", s, at, fmt.Sprint(v), end, err, want)
	}
}

func TestBounds(t *testing.T) { // C2
	full := strings.Repeat(" ", api.MaxFile-1) + "7"
	reads(t, full, 0, num(7000), api.MaxFile)
	fails(t, full, api.MaxFile, api.ErrEnd)
	fails(t, full+" ", 0, api.ErrBound)
	fails(t, full+" ", api.MaxFile-1, api.ErrBound)
	fails(t, "7"+full, 0, api.ErrBound)
	for _, at := range []int{-1, 2, 3, math.MinInt, math.MaxInt} {
		fails(t, "7", at, api.ErrBound)
	}
	fails(t, "", 1, api.ErrBound)
	fails(t, "7", 1, api.ErrEnd)
	reads(t, "7", 0, num(7000), 1)
	reads(t, "12 34", 1, num(2000), 2)
	reads(t, "12 34", 2, num(34000), 5)
}

func TestEnd(t *testing.T) { // C2
	for _, s := range []string{
		"", " ", blanks, "%", "%note", "%note\n", "[", "[ ", "[1", "[1 ", "[1 %]", "[[]", "[(]", "[<<>>", "<<", "<< ", "<</a", "<< /a ", "<</a 1", "<</a 1 ", "<</a 1 %>>",
		"<</a<<>>", "<</a[1]", "(", "(a", "((a)", "(a\\)", "(\\", "(a\\", "(\\0", "(\\012", "(\\\n", "(\\\r", "(\\\r\n", "<", "<6", "<6a", "<6a ", "<< /a 1 /a", "<< /a 1 /a ",
		"(" + strings.Repeat("x", 5000), "<" + strings.Repeat("61", 5000), "[" + strings.Repeat("1 ", 300), strings.Repeat("[", 8), strings.Repeat("<</a", 8), strings.Repeat("[", 8) + " ",
	} {
		fails(t, s, 0, api.ErrEnd)
	}
}

func TestNames(t *testing.T) { // C2
	for s, want := range map[string]string{
		"/a": "a", "/Type": "Type", "/a#20b": "a b", "/#2F#28": "/(", "/#23": "#", "/a#2fb#2Fc": "a/b/c", "/#ff\xff": "\xff\xff", "/\\n": "\\n", "/1": "1", "/#41": "A", "/#0a#0D": "\n\r",
		"/a#2020": "a 20", "/null": "null", "/\x01": "\x01", "/'\"*-.": "'\"*-.",
		"/" + strings.Repeat("x", 200): strings.Repeat("x", 200), "/" + strings.Repeat("#78", 200): strings.Repeat("x", 200),
	} {
		reads(t, s, 0, name(want), len(s))
		reads(t, "\n%/\n"+s+" b", 0, name(want), 4+len(s))
		for _, behind := range []string{"/", "(", ")", "<", ">", "[", "]", "{", "}", "%", "\x00", "\t", "\n", "\f", "\r"} {
			reads(t, s+behind+"b", 0, name(want), len(s))
		}
	}
	for _, s := range []string{
		"/", "/ a", "//a", "/(", "/%", "/#", "/a#", "/a#2", "/a#2 0", "/a#2/0", "/#g0", "/#0g", "/##20", "/#2#20", "/a#-1", "/a# 1", "/#00", "/a#00b", "/\x00a",
		"/" + strings.Repeat("x", 201), "/" + strings.Repeat("#78", 201), "/" + strings.Repeat("x", 50000), "/" + strings.Repeat("x", 200) + "#",
	} {
		fails(t, s, 0, api.ErrText)
		fails(t, "[1 "+s, 0, api.ErrText)
		fails(t, "<< "+s, 0, api.ErrText)
		fails(t, "<</a 1"+s+" 1", 0, api.ErrText)
	}
}

func TestStrings(t *testing.T) { // C2
	for s, want := range map[string]string{
		"()": "", "(a)": "a", "(a b)": "a b", "(a(b)c)": "a(b)c", "(()())": "()()", "(((())))": "((()))", "(\\()": "(", "(\\))": ")", "(\\(a\\))": "(a)", "(a\\)(b))": "a)(b)", "((\\)))": "())",
		"(\\n\\r\\t\\b\\f)": "\n\r\t\b\f", "(\\\\)": "\\", "(\\\\n)": "\\n", "(\\051)": ")", "(\\50)": "(", "(\\5)": "\x05", "(\\5x)": "\x05x", "(\\0)": "\x00", "(\\0512)": ")2", "(\\1234)": "S4",
		"(\\18)": "\x018", "(\\8)": "8", "(\\9\\08)": "9\x008", "(\\377)": "\xff", "(\\400)": "\x00", "(\\501)": "A", "(\\777)": "\xff", "(\\12\\012)": "\n\n", "(\\7777)": "\xff7",
		"(a\\\nb)": "ab", "(a\\\rb)": "ab", "(a\\\r\nb)": "ab", "(a\\\n\rb)": "a\rb", "(a\\\n\nb)": "a\nb", "(a\\\r\rb)": "a\rb", "(a\\\r\n\nb)": "a\nb", "(a\nb\rc\r\nd)": "a\nb\rc\r\nd",
		"(\\\n)": "", "(\\\r)": "", "(\\\r\n)": "", "(\\x\\N\\ \\/\\%)": "xN /%", "(%a\n)": "%a\n", "(<>[]{}/%)": "<>[]{}/%", "(\x00\xff)": "\x00\xff", "(\\\x00\\\xff)": "\x00\xff", "( a )": " a ",
		"(\\a\\v\\e)": "ave", "(\\61\\n1)": "1\n1", "(#20)": "#20",
	} {
		reads(t, s, 0, str(want), len(s))
		reads(t, "%(\n "+s+")(", 0, str(want), 4+len(s))
		reads(t, "["+s+"1]", 0, list(str(want), num(1000)), len(s)+3)
	}
}

func TestHexStrings(t *testing.T) { // C2
	for s, want := range map[string]string{
		"<>": "", "< >": "", "<61>": "a", "<616>": "a`", "<6a 7>": "jp", "<6 1>": "a", "<\x00\t\n6\f\r 1\n>": "a", "<6>": "`", "<6 >": "`", "<0>": "\x00", "<00>": "\x00", "<fF>": "\xff",
		"<Ff0>": "\xff\x00", "<0123456789abcdefABCDEF>": "\x01\x23\x45\x67\x89\xab\xcd\xef\xab\xcd\xef", "<28 29 5c>": "()\\",
	} {
		reads(t, s, 0, str(want), len(s))
		reads(t, "%<\n"+s+">", 0, str(want), 3+len(s))
	}
	for _, s := range []string{"<g>", "<6g>", "<6a7x", "<6%\n1>", "<6(1)>", "< <61>>", "<6<", "<-1>", "<6/", "<6]", "<)", "<\v>", "<\xff>", "<" + strings.Repeat("61", 300) + "g"} {
		fails(t, s, 0, api.ErrText)
	}
}

func TestStringBytes(t *testing.T) { // C2
	long := strings.Repeat("x", 200)
	reads(t, "("+long+")", 0, str(long), 202)
	fails(t, "("+long+"x)", 0, api.ErrMany)
	fails(t, "("+long+long+")", 0, api.ErrMany)
	fails(t, "[("+long+"x) )", 0, api.ErrMany)
	reads(t, "("+strings.Repeat("\\170", 200)+")", 0, str(long), 802)
	fails(t, "("+strings.Repeat("\\170", 201)+")", 0, api.ErrMany)
	reads(t, "("+long+strings.Repeat("\\\n", 300)+")", 0, str(long), 802)
	fails(t, "("+long[:199]+"())", 0, api.ErrMany)
	reads(t, "<"+strings.Repeat("7 8", 200)+">", 0, str(long), 602)
	fails(t, "<"+strings.Repeat("78", 200)+"7>", 0, api.ErrMany)
	fails(t, "<"+strings.Repeat("78", 201)+">", 0, api.ErrMany)
	// At its end: ahead of that, what is met earlier is told.
	fails(t, "("+long+"x", 0, api.ErrEnd)
	fails(t, "<"+strings.Repeat("78", 201), 0, api.ErrEnd)
	fails(t, "<"+strings.Repeat("78", 201)+"(>", 0, api.ErrText)
}

func TestLists(t *testing.T) { // C2
	for s, want := range map[string]api.Value{
		"[]": list(), "[ ]": list(), "[%]\n]": list(), "[1]": list(num(1000)), "[ 1 ]": list(num(1000)), "[1 2 3]": list(num(1000), num(2000), num(3000)),
		"[[][[]]]": list(list(), list(list())), "[/a/b(c)<64>true null]": list(name("a"), name("b"), str("c"), str("d"), flag(1), api.Value{}),
		"[1%x\n2%]\r%\n]": list(num(1000), num(2000)), "[<<>>[]()]": list(dict(), list(), str("")), "[-5+5.5]": {}, // one word
		"[1 0 R]": list(ref(1)), "[1 2 0 R 3]": list(num(1000), ref(2), num(3000)), "[1 0 R 2 0 R]": list(ref(1), ref(2)), "[1 1 0 R]": list(num(1000), ref(1)),
		"[1 0 2 0 R]": list(num(1000), num(0), ref(2)), "[1 0]": list(num(1000), num(0)), "[1 0 0 R]": {}, "[1\x000\fR]": list(ref(1)),
	} {
		if want.Kind == api.Null {
			fails(t, s, 0, api.ErrText)
			continue
		}
		reads(t, s, 0, want, len(s))
		reads(t, "\r%[\r"+s+"]", 0, want, 4+len(s))
	}
	for _, s := range []string{"]", "[)", "[1 >", "[1 >>", "[1 }", "[{", "[1)]", "[x]", "[1 nul]", "[(a)b]", "[1 R]"} {
		fails(t, s, 0, api.ErrText)
	}
}

func TestDicts(t *testing.T) { // C2
	for s, want := range map[string]api.Value{
		"<<>>": dict(), "<< >>": dict(), "<<%>>\n>>": dict(), "<</a 1>>": dict(field("a", num(1000))), "<< /a 1 >>": dict(field("a", num(1000))),
		"<</b 2/a 1>>": dict(field("a", num(1000)), field("b", num(2000))), "<</c 3/a 1/b 2>>": dict(field("a", num(1000)), field("b", num(2000)), field("c", num(3000))),
		"<</a/b>>": dict(field("a", name("b"))), "<</a/b/b/a>>": dict(field("a", name("b")), field("b", name("a"))), "<</a#20b()>>": dict(field("a b", str(""))),
		"<<%x\n/a%y\n1%z\n>>": dict(field("a", num(1000))), "<</a<</a<<>>>>>>": dict(field("a", dict(field("a", dict())))), "<</a[]/A[<<>>]>>": dict(field("A", list(dict())), field("a", list())),
		"<</a 1 0 R/aa 1>>": dict(field("a", ref(1)), field("aa", num(1000))), "<</a<61>>>": dict(field("a", str("a"))), "<</#ff 1/z 2>>": dict(field("z", num(2000)), field("\xff", num(1000))),
		"<</a<<>>/b null>>": dict(field("a", dict()), field("b", api.Value{})), "<</a 1\x00/B 2\f>>": dict(field("B", num(2000)), field("a", num(1000))),
	} {
		reads(t, s, 0, want, len(s))
		reads(t, " %<<\n"+s+">>", 0, want, 5+len(s))
	}
	for _, s := range []string{
		"<<1 2>>", "<<a 1>>", "<<ab 1>>", "<</a 1 bc 2>>", "<<(a) 1>>", "<<]", "<<<<", "<< >", "<< > >", "<</a 1 >", "<</a 1 > >", "<</a>>", "<</a ]", "<</a 1 2>>", "<</a 1 null>>", "<</a 1]", ">>", ">",
		"<</a 1/a )", "<</a x", "<</a 1/b x", "<</a#0 1>>", "<< 1", "<</a 1 1",
	} {
		fails(t, s, 0, api.ErrText)
	}
	for _, s := range []string{
		"<</a 1/a 2>>", "<</a 1/a 2", "<</a 1/b 2/a 3", "<</a 1/#61 2", "<</a 1/a null)", "<</a 1/b 2/c 3/b 4/", "[<</a 1/a[]", "<</a 1/a<<>>x", "<</x<</a 1/a 2", "<</b 1/a 1/b 1",
	} {
		fails(t, s, 0, api.ErrShape)
	}
	reads(t, "<</a<</a<</a 1>>>>/b<</a 1>>>>", 0, dict(field("a", dict(field("a", dict(field("a", num(1000)))))), field("b", dict(field("a", num(1000))))), 30)
	reads(t, "<< /a 1 >>>", 0, dict(field("a", num(1000))), 10)
}

func TestSigns(t *testing.T) { // C2
	for _, s := range []string{")", ">", ">>", "]", "{", "}", "{}", "){", " )", "%\n)"} {
		fails(t, s, 0, api.ErrText)
	}
}

func TestWords(t *testing.T) { // C2
	for s, want := range map[string]api.Value{
		"null": {}, "true": flag(1), "false": flag(0), "0": num(0), "7": num(7000), "-1.25": num(-1250), "+.5": num(500), "5.": num(5000), "1.2345": num(1234), "-0.0009": num(0), "1000000": num(api.MaxFix),
		"-1000000": num(-api.MaxFix), "1000000.0009": num(api.MaxFix), "007": num(7000), "60": num(60000), strings.Repeat("0", 5000) + "1": num(1000),
	} {
		reads(t, s, 0, want, len(s))
		for _, behind := range []string{" x", "/x", "(x)", ")", "<61>", ">", "[", "]", "{", "}", "%x", "\n", "\x00"} {
			reads(t, s+behind, 0, want, len(s))
			reads(t, " %\n"+s+behind, 0, want, 3+len(s))
		}
	}
	for _, s := range []string{"nul", "nulls", "True", "TRUE", "truex", "false0", "x", "-", "+", ".", "- 5", "--5", "1e5", "5-", "1.2.3", "0x1", "1_0", "R", "0R", "#20", "\\", "'", "\v1", "1\v", "\xff", "٣"} {
		fails(t, s, 0, api.ErrText)
	}
	for _, s := range []string{"1000001", "1000000.001", "-1000001", "-1000000.001", "99999999999999999999", strings.Repeat("9", 59999)} {
		fails(t, s, 0, api.ErrBound)
		fails(t, s+"(", 0, api.ErrBound)
	}
}

func TestRefs(t *testing.T) { // C2
	for n := 1; n <= api.MaxObject; n++ {
		s := fmt.Sprintf("%d 0 R", n)
		reads(t, s, 0, ref(n), len(s))
	}
	for _, s := range []string{"7 0 R", "7  0  R", "7\n0\rR", "7\x000\fR", "7%\n0%x\rR", "7%0 R\n 0\t%\n%\n R", "7\t0 R"} {
		reads(t, s, 0, ref(7), len(s))
		for _, behind := range []string{" ", "/a", "(", ")", "<", ">", "[", "]", "{", "}", "%", "\n", "\x00"} {
			reads(t, s+behind+"0 R", 0, ref(7), len(s))
		}
	}
	for s, end := range map[string]int{
		"61 0 R": 2, "0 0 R": 1, "01 0 R": 2, "007 0 R": 3, "-1 0 R": 2, "+1 0 R": 2, "1.0 0 R": 3, "1. 0 R": 2, "7 0 r": 1, "7 0 Rx": 1, "7 0 RR": 1, "7 00 R": 1, "7 1 R": 1, "7 0R": 1, "7 0": 1, "7 ": 1, "7 0 ": 1,
		"7 0 0 R": 1, "7 R": 1, "7 0%R": 1, "7(0 R)": 1, "7/0 R": 1, "7 0/R": 1, "7 0(R)": 1, "7 +0 R": 1, "7 0. R": 1, "7 -0 R": 1, "7%0 R": 1, "999 0 R": 3, "100 0 R": 3, "600 0 R": 3, "7 0 %\n": 1, "7 [0 R": 1,
		"7\v0 R": 0, "70 R": 2, "7 0]R": 1, "7 0 ]R": 1,
	} {
		v, got, err := parse.Value(s, 0)
		if end == 0 {
			fails(t, s, 0, api.ErrText)
		} else if err != nil || got != end || v.Kind != api.Num {
			t.Errorf("Value(%q): %v, %d, %v, want a number that ends at %d", s, v, got, err, end)
		}
	}
	fails(t, strings.Repeat("9", 30)+" 0 R", 0, api.ErrBound)
	reads(t, "7 0 R", 1, num(0), 3)
	reads(t, "[7 0 R]", 1, ref(7), 6)
	fails(t, "7 0 R", 4, api.ErrText)
}

// inLists: s in so many lists; inDicts likewise.
func inLists(s string, n int) string { return strings.Repeat("[", n) + s + strings.Repeat("]", n) }
func inDicts(s string, n int) string {
	return strings.Repeat("<</a ", n) + s + strings.Repeat(">>", n)
}

func TestDeep(t *testing.T) { // C2
	for _, x := range []string{"1", "(x)", "<61>", "/a", "null", "1 0 R", "[]", "<<>>"} {
		for _, s := range []string{inLists(x, 7), inDicts(x, 7), inLists(inDicts(x, 4), 3), inDicts(inLists(x, 1), 6)} {
			if _, end, err := parse.Value(s, 0); err != nil || end != len(s) {
				t.Errorf("Value(%q): %d, %v", s, end, err)
			}
			for _, deeper := range []string{"[" + s + "]", "<</b 1/a" + s + ">>", "[1 " + s, "<</a" + s} {
				fails(t, deeper, 0, api.ErrMany)
			}
		}
	}
	// Where it begins: ahead of all that is wrong in it, or behind it.
	for _, s := range []string{"(", "<", "<g", "/", "x", ")", "1 1", "<<", "[", "1000001"} {
		fails(t, strings.Repeat("[", 8)+s, 0, api.ErrMany)
		fails(t, strings.Repeat("[1 ", 8)+s, 0, api.ErrMany)
		fails(t, strings.Repeat("<</a", 8)+" "+s, 0, api.ErrMany)
	}
	// What is met earlier is told.
	fails(t, "[x"+inLists("1", 8)+"]", 0, api.ErrText)
	fails(t, strings.Repeat("<</a", 7)+"<<1", 0, api.ErrText)
	fails(t, strings.Repeat("<</a", 7)+"<</ 1", 0, api.ErrText)
	fails(t, strings.Repeat("[", 59999), 0, api.ErrMany)
	fails(t, strings.Repeat("<</a", 14999), 0, api.ErrMany)
	reads(t, strings.Repeat("[", 8)+"]", 7, list(), 9)
}

// fields: so many of a dictionary.
func fields(n int) string {
	var b strings.Builder
	for i := range n {
		fmt.Fprintf(&b, "/n%d %d", (i*7+3)%1000, i)
	}
	return b.String()
}

func TestParts(t *testing.T) { // C2
	ones := func(n int) string { return strings.Repeat("1 ", n) }
	for _, s := range []string{"[" + ones(299) + "]", "<<" + fields(299) + ">>", "[" + ones(99) + "[" + ones(199) + "]]", "<</a[" + ones(150) + "]/b[" + ones(147) + "]>>"} {
		if v, end, err := parse.Value(s, 0); err != nil || end != len(s) || value.Check(v) != nil {
			t.Errorf("Value(%.30q): %d, %v", s, end, err)
		}
	}
	for _, s := range []string{
		// More than may be in one, when that comes, whatever is behind.
		"[" + ones(301), "[" + ones(300) + "1", "[" + ones(301) + ")", "[" + ones(500) + "]", "<<" + fields(301), "<<" + fields(301) + ">>",
		// Check's error.
		"[" + ones(300) + "]", "<<" + fields(300) + ">>", "[" + ones(100) + "[" + ones(199) + "]]", "<</a[" + ones(150) + "]/b[" + ones(148) + "]>>",
	} {
		fails(t, s, 0, api.ErrMany)
	}
	// Check's error is told behind those of reading.
	fails(t, "["+ones(300), 0, api.ErrEnd)
	fails(t, "["+inLists(ones(200), 1)+inLists(ones(200), 1), 0, api.ErrEnd)
	fails(t, "["+inLists(ones(200), 1)+inLists(ones(200), 1)+")", 0, api.ErrText)
	fails(t, "["+inLists(ones(200), 1)+inLists(ones(200), 1)+"<</a 1/a 1", 0, api.ErrShape)
	fails(t, "<<"+fields(300), 0, api.ErrEnd)
	fails(t, "[["+ones(300)+"]", 0, api.ErrEnd)
	fails(t, "[["+ones(300)+"])", 0, api.ErrText)
	fails(t, "[<<"+fields(300)+">>", 0, api.ErrEnd)
	fails(t, "[<<"+fields(300)+">>)", 0, api.ErrText)
	fails(t, "["+ones(299)+"x", 0, api.ErrText)
	reads(t, "<</a["+ones(150)+"]/b["+ones(148)+"]>>", 4, list(times(150)...), 306)
}

// A list or dictionary that has as many parts as may be is not greater until one more of them has been read.
func TestFullParts(t *testing.T) { // C2
	full := "[" + strings.Repeat("1 ", api.MaxParts)
	for behind, want := range map[string]error{
		"": api.ErrEnd, " %]": api.ErrEnd, "(abc": api.ErrEnd, "<6": api.ErrEnd, "[": api.ErrEnd, "[1": api.ErrEnd, "<<": api.ErrEnd, "<</a": api.ErrEnd, "(" + strings.Repeat("x", 201): api.ErrEnd,
		")": api.ErrText, ">": api.ErrText, ">>": api.ErrText, "{": api.ErrText, "%\n}": api.ErrText, "1x]": api.ErrText, "nul]": api.ErrText, "/]": api.ErrText, "/#zz]": api.ErrText, "<6g>]": api.ErrText, "[)": api.ErrText,
		"<<1": api.ErrText, "<</a 1/a 2>>]": api.ErrShape, "1000001]": api.ErrBound, "[1000001": api.ErrBound,
		"1": api.ErrMany, "1 ": api.ErrMany, "1]": api.ErrMany, "1 )": api.ErrMany, "1 x": api.ErrMany, "1 0 R": api.ErrMany, "()x": api.ErrMany, "/a(": api.ErrMany, "[]": api.ErrMany, "<<>>)": api.ErrMany, "null": api.ErrMany,
		"(" + strings.Repeat("x", 201) + ")": api.ErrMany, strings.Repeat("[", 8): api.ErrMany,
	} {
		fails(t, full+behind, 0, want)
		fails(t, "[x "+full+behind, 3, want)
		fails(t, "<</a "+full+behind, 0, want)
	}
	full = "<<" + fields(api.MaxParts)
	for behind, want := range map[string]error{
		"": api.ErrEnd, " %>>": api.ErrEnd, "/x": api.ErrEnd, "/x ": api.ErrEnd, "/x(": api.ErrEnd, "/x[1": api.ErrEnd, "/n3": api.ErrEnd, "/n3 (": api.ErrEnd, "/x<<": api.ErrEnd,
		")": api.ErrText, " 1": api.ErrText, "[": api.ErrText, ">": api.ErrText, "> >": api.ErrText, "]": api.ErrText, " x": api.ErrText, "(": api.ErrText, "/": api.ErrText, "/#zz 1>>": api.ErrText, "/x>>": api.ErrText, "/x)": api.ErrText,
		"/x 1x>>": api.ErrText, "/x nul": api.ErrText, "/n3>>": api.ErrText, "/n3 1x": api.ErrText, "/x 1000001": api.ErrBound, "/n3 1000001": api.ErrBound,
		"/n3 1>>": api.ErrShape, "/n3()": api.ErrShape, "/n10 1 )": api.ErrShape, "/#6e3 1": api.ErrShape, "/x<</a 1/a 1": api.ErrShape,
		"/x 1": api.ErrMany, "/x 1>>": api.ErrMany, "/x 1 )": api.ErrMany, "/x()/n3 1": api.ErrMany, "/A[]>>": api.ErrMany, "/x(" + strings.Repeat("x", 201) + ")": api.ErrMany,
	} {
		fails(t, full+behind, 0, want)
		fails(t, "[x "+full+behind, 3, want)
		fails(t, "["+full+behind, 0, want)
	}
}

// times: so many values 1.
func times(n int) []api.Value {
	var l []api.Value
	for range n {
		l = append(l, num(1000))
	}
	return l
}

func TestFirstErrorIsTold(t *testing.T) { // C2, Z3
	for _, c := range []struct {
		s    string
		want error
	}{
		{"[x 1000001", api.ErrText}, {"[1000001 x", api.ErrBound}, {"[1000001", api.ErrBound}, {"<</a 1/a 2/b x", api.ErrShape}, {"<</b x/a 1/a 2", api.ErrText}, {"<</a 1000001/a", api.ErrBound},
		{"[<6g", api.ErrText}, {"[<6 )", api.ErrText}, {"[(", api.ErrEnd}, {"[/#(", api.ErrText}, {"<</a 1/a", api.ErrEnd}, {"<</a 1/a 1000001", api.ErrBound}, {"<</a 1/a /", api.ErrText},
		{"[(" + strings.Repeat("x", 201) + ")x", api.ErrMany}, {"[x(" + strings.Repeat("x", 201) + ")", api.ErrText},
	} {
		fails(t, c.s, 0, c.want)
	}
}

// some value, of parts that may be, so deep.
func some(d *rand.Rand, deep int) api.Value {
	k := d.Intn(8)
	if deep >= 6 {
		k = d.Intn(6)
	}
	switch k {
	case 0:
		return api.Value{}
	case 1:
		return flag(d.Intn(2))
	case 2:
		return num([]int{d.Intn(20000) - 9000, 1000 * d.Intn(700), api.MaxFix, -api.MaxFix, d.Intn(1000)}[d.Intn(5)])
	case 3:
		return str(bytesOf(d, d.Intn(20)))
	case 4:
		return name(nameOf(d, 9))
	case 5:
		return ref(1 + d.Intn(api.MaxObject))
	case 6:
		v := list()
		for range d.Intn(5) {
			v.L = append(v.L, some(d, deep+1))
		}
		return v
	}
	v := dict()
	for range d.Intn(5) {
		v = value.Set(v, nameOf(d, 2), some(d, deep+1))
	}
	return v
}

// nameOf: what may be a name, of at most so many bytes.
func nameOf(d *rand.Rand, most int) string {
	return strings.ReplaceAll(bytesOf(d, 1+d.Intn(most)), "\x00", "n")
}

func bytesOf(d *rand.Rand, n int) string {
	b := make([]byte, n)
	for i := range b {
		const often = "abc019 ()\\<>[]{}/%#\n\r\t\x00\x7f\xffR."
		b[i] = often[d.Intn(len(often))]
		if d.Intn(4) == 0 {
			b[i] = byte(d.Intn(256))
		}
	}
	return string(b)
}

// loose: the text of a value, with more blanks and notes than there must be, or as few.
func loose(d *rand.Rand, v api.Value) string {
	gap := func() string {
		return []string{"", " ", "\n", "\x00\f", "%n (\n", "\t%>>]\r ", "%%\r\n"}[d.Intn(7)]
	}
	switch v.Kind {
	case api.List:
		s := gap() + "["
		for i, x := range v.L {
			if i > 0 {
				s += " "
			}
			s += loose(d, x)
		}
		return s + gap() + "]"
	case api.Dict:
		s := gap() + "<<"
		for _, k := range d.Perm(len(v.F)) {
			n, _ := value.Text(name(v.F[k].Name))
			s += gap() + n + " " + loose(d, v.F[k].V)
		}
		return s + gap() + ">>"
	case api.Ref:
		return gap() + fmt.Sprint(v.N) + " " + gap() + "0 " + gap() + "R"
	case api.Str:
		if d.Intn(2) == 0 {
			return gap() + strings.ReplaceAll(fmt.Sprintf("<% x>", v.S), "0 ", "0")
		}
	}
	s, _ := value.Text(v)
	return gap() + s
}

func TestReadsWhatIsWritten(t *testing.T) { // C2, W5
	d := rand.New(rand.NewSource(3))
	for range 3000 {
		v := some(d, 1)
		s, err := value.Text(v)
		if err != nil {
			t.Fatalf("Text(%v): %v", v, err)
		}
		reads(t, s, 0, v, len(s))
		reads(t, "1 "+s+"]", 1, v, 2+len(s))
		s = loose(d, v)
		reads(t, s, 0, v, len(s))
	}
}

func TestAnyBytes(t *testing.T) { // Z1
	d := rand.New(rand.NewSource(4))
	for range 20000 {
		s := loose(d, some(d, 1))
		switch d.Intn(3) {
		case 0:
			s = bytesOf(d, d.Intn(30))
		case 1:
			k := d.Intn(len(s) + 1)
			s = s[:k] + bytesOf(d, d.Intn(3)) + s[k:]
		}
		at := d.Intn(len(s) + 1)
		v, end, err := parse.Value(s, at)
		if err != nil {
			if _, is := err.(api.Errno); !is {
				t.Errorf("Value(%q, %d): %T", s, at, err)
			}
			fails(t, s, at, err)
			continue
		}
		if end <= at || end > len(s) || value.Check(v) != nil {
			t.Errorf("Value(%q, %d): %v, %d", s, at, v, end)
		}
		reads(t, s[at:end], 0, v, end-at) // what is behind a value tells nothing of it
	}
}

func TestFresh(t *testing.T) { // Z2
	const s = "[[1][1]<</a[1]/b[1]>>]"
	v, _, _ := parse.Value(s, 0)
	w, _, _ := parse.Value(s, 0)
	was := value.Copy(w)
	for _, l := range [][]api.Value{v.L[0].L, v.L[2].F[0].V.L} {
		for l = l[:cap(l)]; len(l) > 0; l = l[1:] {
			l[0] = str("spoilt")
		}
	}
	if !value.Alike(v.L[1], list(num(1000))) || !value.Alike(v.L[2].F[1].V, list(num(1000))) {
		t.Errorf("two lists share memory: %v", v)
	}
	if !value.Alike(w, was) {
		t.Errorf("two answers share memory: %v", w)
	}
}
