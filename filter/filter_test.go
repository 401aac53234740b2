package filter_test

import (
	"encoding/ascii85"
	"encoding/hex"
	"math/rand"
	"slices"
	"strings"
	"testing"

	"foliowright/api"
	"foliowright/filter"
)

const (
	hexes = "ASCIIHexDecode"
	fives = "ASCII85Decode"
	runs  = "RunLengthDecode"

	blanks = "\x00\t\n\f\r "
)

// makes: a chain of filters makes this of s, and takes it apart again.
func makes(t *testing.T, names []string, s, want string) {
	t.Helper()
	got, err := filter.Make(names, s)
	if got != want || err != nil {
		t.Errorf("Make(%q, %.200q): %.200q, %v, want %.200q", names, s, got, err, want)
	}
	takes(t, names, want, s)
}

// takes: a chain of filters takes s apart to this.
func takes(t *testing.T, names []string, s, want string) {
	t.Helper()
	got, err := filter.Take(names, s)
	if got != want || err != nil {
		t.Errorf("Take(%q, %.200q): %.200q, %v, want %.200q", names, s, got, err, want)
	}
}

// noMake: Make tells this error, and nothing besides.
func noMake(t *testing.T, names []string, s string, want error) {
	t.Helper()
	if got, err := filter.Make(names, s); got != "" || err != want {
		t.Errorf("Make(%q, %.200q): %.200q, %v, want %v alone", names, s, got, err, want)
	}
}

// noTake: Take tells this error, and nothing besides.
func noTake(t *testing.T, names []string, s string, want error) {
	t.Helper()
	if got, err := filter.Take(names, s); got != "" || err != want {
		t.Errorf("Take(%q, %.200q): %.200q, %v, want %v alone", names, s, got, err, want)
	}
}

func by(names ...string) []string { return names }

// times: a chain of one filter, so often.
func times(name string, n int) []string { return slices.Repeat(by(name), n) }

// ladder: so many bytes of which no two neighbours are the same.
func ladder(n int) string {
	b := make([]byte, n)
	for i := range b {
		b[i] = byte(i)
	}
	return string(b)
}

func TestKnown(t *testing.T) { // D1
	for _, s := range by(hexes, fives, runs) {
		if !filter.Known(s) {
			t.Errorf("Known(%q): false", s)
		}
		for _, other := range by(s+" ", "/"+s, s[1:], s[:len(s)-1], strings.ToLower(s), s+"\x00", strings.TrimSuffix(s, "Decode")) {
			if filter.Known(other) {
				t.Errorf("Known(%q): true", other)
			}
		}
	}
	for _, s := range by("", "FlateDecode", "LZWDecode", "x", hexes+fives) {
		if filter.Known(s) {
			t.Errorf("Known(%q): true", s)
		}
	}
}

func TestMakeHex(t *testing.T) { // D1
	for s, want := range map[string]string{"": ">", "a": "61>", "\x00": "00>", "\x0f\xf0": "0FF0>", "abcdefgh": "6162636465666768>", "\xab\xcd\xef": "ABCDEF>", " >": "203E>"} {
		makes(t, by(hexes), s, want)
	}
	all := ladder(256)
	makes(t, by(hexes), all, strings.ToUpper(hex.EncodeToString([]byte(all)))+">")
}

func TestMakeFive(t *testing.T) { // D1
	for s, want := range map[string]string{
		"": "~>", "a": "@/~>", "ab": "@:B~>", "abc": "@:E^~>", "abcd": "@:E_W~>", "abcde": "@:E_WAH~>", "Man ": "9jqo^~>",
		"\x00": "!!~>", "\x00\x00": "!!!~>", "\x00\x00\x00": "!!!!~>", "\x00\x00\x00\x00": "z~>", "\x00\x00\x00\x00\x00": "z!!~>", "\x00\x00\x00\x00\x00\x00\x00\x00": "zz~>",
		"a\x00\x00\x00\x00bcd": "@/p9-!+KGK~>", "\x00\x00\x00\x01": "!!!!\"~>", "\x01\x00\x00\x00": "!<<*\"~>", "\xff\xff\xff\xff": "s8W-!~>", "\xff": "rr~>", "\xff\xff": "s8N~>", "\xff\xff\xff": "s8W*~>",
	} {
		makes(t, by(fives), s, want)
	}
	draw := rand.New(rand.NewSource(85))
	for range 2000 {
		b := make([]byte, draw.Intn(30))
		for i := range b {
			b[i] = byte(draw.Intn(256) * draw.Intn(2))
		}
		to := make([]byte, ascii85.MaxEncodedLen(len(b)))
		makes(t, by(fives), string(b), string(to[:ascii85.Encode(to, b)])+"~>")
	}
}

func TestMakeRuns(t *testing.T) { // D1
	x := func(n int) string { return strings.Repeat("x", n) }
	up := ladder(256)
	for _, c := range []struct{ s, want string }{
		{"", "\x80"}, {"a", "\x00a\x80"}, {"ab", "\x01ab\x80"}, {"aa", "\xffa\x80"}, {"aaa", "\xfea\x80"}, {"aaaab", "\xfda\x00b\x80"}, {"abb", "\x00a\xffb\x80"}, {"aab", "\xffa\x00b\x80"},
		{"abba", "\x00a\xffb\x00a\x80"}, {"abcdd", "\x02abc\xffd\x80"}, {"aabb", "\xffa\xffb\x80"}, {"abab", "\x03abab\x80"}, {"aba\x80", "\x03aba\x80\x80"}, {"\x80\x80", "\xff\x80\x80"},
		{x(127), "\x82x\x80"}, {x(128), "\x81x\x80"}, {x(129), "\x81x\x00x\x80"}, {x(130), "\x81x\xffx\x80"}, {x(256), "\x81x\x81x\x80"}, {x(257), "\x81x\x81x\x00x\x80"},
		{x(129) + "a", "\x81x\x01xa\x80"}, {x(129) + "aa", "\x81x\x00x\xffa\x80"}, {"a" + x(129) + "ab", "\x00a\x81x\x02xab\x80"},
		{up[:127], "\x7e" + up[:127] + "\x80"}, {up[:128], "\x7f" + up[:128] + "\x80"}, {up[:129], "\x7f" + up[:128] + "\x00\x80\x80"}, {up, "\x7f" + up[:128] + "\x7f" + up[128:] + "\x80"},
		{up[:128] + "\x7f", "\x7e" + up[:127] + "\xff\x7f\x80"}, {up[:128] + "xx", "\x7f" + up[:128] + "\xffx\x80"}, {up[:129] + "\x80", "\x7f" + up[:128] + "\xff\x80\x80"},
		{up[:127] + "xx", "\x7e" + up[:127] + "\xffx\x80"}, {up[1:] + "aa", "\x7f" + up[1:129] + "\x7e" + up[129:] + "\xffa\x80"},
	} {
		makes(t, by(runs), c.s, c.want)
	}
}

func TestTakeHex(t *testing.T) { // D2
	for s, want := range map[string]string{
		">": "", blanks + ">": "", "61>": "a", "6>": "`", "616>": "a`", "0>": "\x00", "00>": "\x00", "aBcDeF>": "\xab\xcd\xef", "Ab0>": "\xab\x00", "6 1>": "a", "6" + blanks + "1" + blanks + "6" + blanks + ">": "a`",
		"0123456789abcdefABCDEF>": "\x01\x23\x45\x67\x89\xab\xcd\xef\xab\xcd\xef", "61>62>": "a", "61>g": "a", "61>\x00\xff~(": "a", ">>": "", ">g": "",
	} {
		takes(t, by(hexes), s, want)
	}
	for _, s := range by("g>", "6g>", "61g", "g", "61~>", "6/>", "6:>", "6@>", "6G>", "6`>", "6%\n1>", "<61>", "6-1>", "+1>", "0x61>", "\v>", "6\x0b1>", "\xff>", "\x80>", "\x85>", "\xa0>", strings.Repeat("61", 9000)+"g") {
		noTake(t, by(hexes), s, api.ErrText)
	}
	for _, s := range by("", " ", "6", "61", "616", "61 ", blanks, strings.Repeat("6", api.MaxData)) {
		noTake(t, by(hexes), s, api.ErrEnd)
	}
	for c := range 256 {
		one := string([]byte{byte(c)})
		if !strings.Contains(blanks+"0123456789abcdefABCDEF>", one) {
			noTake(t, by(hexes), "6"+one+"1>", api.ErrText)
		}
	}
}

func TestTakeFive(t *testing.T) { // D2
	for s, want := range map[string]string{
		"~>": "", blanks + "~>": "", "@:E_WAH~>": "abcde", "@:E_W~>": "abcd", "@ : E\n_\rW A\tH\f\x00~>": "abcde", "z~>": "\x00\x00\x00\x00", "zz~>": "\x00\x00\x00\x00\x00\x00\x00\x00", " z z ~>": "\x00\x00\x00\x00\x00\x00\x00\x00",
		"@:E_Wz@:E_W~>": "abcd\x00\x00\x00\x00abcd", "z@/~>": "\x00\x00\x00\x00a", "!!!!!~>": "\x00\x00\x00\x00", "!!~>": "\x00", "!!!~>": "\x00\x00", "!!!!~>": "\x00\x00\x00", "s8W-!~>": "\xff\xff\xff\xff",
		"!u~>": "\x03", "\"!~>": "\x03", "@0~>": "a", "@/~>~>": "a", "@/~>x~": "a", "@/~>\xff": "a", "~>v": "", "~>~": "", "s7~>": "\xff", "s8V~>": "\xff\xff", "s8W,~>": "\xff\xff\xff",
	} {
		takes(t, by(fives), s, want)
	}
	for _, s := range by(
		"~", "~x", "~ >", "~\n>", "~~>", "@:E_W~", "@:E_W~x", "@/~x>~>", "~z", // behind '~'
		"v~>", "@v~>", "\x7f~>", "{~>", "|~>", "}~>", "w", "@:E_Wv", "\v~>", "\x1f~>", "\xff~>", "@:E\x80_W~>", "\xa0", "y~>", "x~>", // other bytes
		"@z~>", "@:E_z~>", "@:z", "@:E_WAz~>", "@ z~>", // z within a group
		"!~>", "@~>", "u~>", "z!~>", "@:E_WA~>", "@:E_W A ~>", // one digit alone
		"s8W-\"~>", "s8W.!~>", "s8X!!~>", "s9!!!~>", "t!!!!~>", "uuuuu~>", "z@:E_WuuuuuAH~>", "uuuuu", // 2 to the power 32
		"uu~>", "uuu~>", "uuuu~>", "s8~>", "s8W~>", "s8W-~>", "s8X~>", "s9~>", "t!~>", "t!!~>", "@:E_Ws8W-~>",
	) {
		noTake(t, by(fives), s, api.ErrText)
	}
	for _, s := range by("", " ", blanks, ">", "z", "zz ", "@", "@:", "@:E_W", "@:E_WAH", "@:E_WAH>", "@:E_WAHu", "s8W-!", "uuuu", strings.Repeat("z", api.MaxData)) {
		noTake(t, by(fives), s, api.ErrEnd)
	}
	for c := range 256 {
		one := string([]byte{byte(c)})
		if !strings.Contains(blanks, one) && (c < '!' || c > 'u') {
			noTake(t, by(fives), "@"+one+"E_W~>", api.ErrText)
		}
	}
}

func TestTakeRuns(t *testing.T) { // D2
	x := func(n int) string { return strings.Repeat("x", n) }
	up := ladder(256)
	for s, want := range map[string]string{
		"\x80": "", "\x80\x80": "", "\x00a\x80": "a", "\x01ab\x80": "ab", "\x00\x80\x80": "\x80", "\xffa\x80": "aa", "\xfda\x00b\x80": "aaaab", "\xff\x80\x80": "\x80\x80", "\x81x\x80": x(128), "\x82x\x80": x(127),
		"\x7f" + up[:128] + "\x80": up[:128], "\x7f" + x(128) + "\x80": x(128), "\x7e" + up[:127] + "\x80": up[:127], "\x00a\x00a\xffa\x80": "aaaa", "\x00a\x80\x05a": "a", "\xffa\x80\xff": "aa", "\x80\x00": "", "\x01  \x80": "  ",
	} {
		takes(t, by(runs), s, want)
	}
	for _, s := range by("", "\x00", "\x00a", "\x01a", "\x01a\x80", "\x7f"+x(127), "\x7f"+x(127)[:126]+"\x80", "\x7f"+x(128), "\xff", "\x81", "\xffa", "\x81a", "\x00a\xff", "\x00a\x05abcd", "\xffa\x02a\x80") {
		noTake(t, by(runs), s, api.ErrEnd)
	}
}

func TestRunsMany(t *testing.T) { // D2, D3
	full := strings.Repeat("\x81x", 156) // 19968 bytes, 32 less than there may be
	takes(t, by(runs), full+"\xe1x\x80", strings.Repeat("x", api.MaxData))
	takes(t, by(runs), full+"\x1f"+strings.Repeat("x", 32)+"\x80", strings.Repeat("x", api.MaxData))
	noTake(t, by(runs), full+"\xe0x\x80", api.ErrMany)
	noTake(t, by(runs), full+"\x20"+strings.Repeat("x", 33)+"\x80", api.ErrMany)
	noTake(t, by(runs), strings.Repeat("\x81x", 9999)+"\x80", api.ErrMany)
	// As it is read: what isn't there is told of the run itself ahead of too many, but not of a run behind it, nor of the end.
	noTake(t, by(runs), full+"\xe0x", api.ErrMany)
	noTake(t, by(runs), full+"\xe0x\xff", api.ErrMany)
	noTake(t, by(runs), full+"\xe0", api.ErrEnd)
	noTake(t, by(runs), full+"\x20"+strings.Repeat("x", 32), api.ErrEnd)
	noTake(t, by(runs), full+"\xe1x", api.ErrEnd)
}

func TestNoFilters(t *testing.T) { // D3
	for _, s := range by("", "a", "~>", "\x00\xff", strings.Repeat("x", api.MaxData)) {
		makes(t, nil, s, s)
		makes(t, by(), s, s)
	}
	noMake(t, nil, strings.Repeat("x", api.MaxData+1), api.ErrMany)
	noTake(t, nil, strings.Repeat("x", api.MaxData+1), api.ErrMany)
}

func TestOrder(t *testing.T) { // D3
	makes(t, by(hexes, fives), "abcde", "403A455F5741487E3E>")
	makes(t, by(fives, hexes), "ab", "2DI*F4o~>")
	makes(t, by(hexes, runs), "aaaab", "FD61006280>")
	makes(t, by(runs, hexes), "fff", "\xfb6\x00>\x80")
	makes(t, by(hexes, runs, hexes), "fff", "FB36003E80>")
	noTake(t, by(fives, hexes), "403A455F5741487E3E>", api.ErrEnd)
	noTake(t, by(hexes, fives), "@/~>", api.ErrText)
}

func TestChain(t *testing.T) { // D3
	makes(t, times(runs, 8), "", runsOf(8, ""))
	makes(t, times(hexes, 8), "", hexed(8))
	noMake(t, times(hexes, 9), "", api.ErrMany)
	noTake(t, times(hexes, 9), hexed(9), api.ErrMany)
	noMake(t, times("x", 9), "", api.ErrMany)
	noTake(t, times("x", 9), "", api.ErrMany)
	noMake(t, times("x", 8), "", api.ErrFilter)
	noTake(t, times("x", 8), "", api.ErrFilter)
}

// hexed: nothing, made by hexes so often.
func hexed(n int) string {
	s := ""
	for range n {
		s = strings.ToUpper(hex.EncodeToString([]byte(s))) + ">"
	}
	return s
}

// runsOf: s, made by runs so often.
func runsOf(n int, s string) string {
	for range n {
		s = slowRuns(s)
	}
	return s
}

// slowRuns: what RunLengthDecode makes, said once more: each place asks anew what stands there.
func slowRuns(s string) string {
	twice := func(at int) bool { return at+1 < len(s) && s[at] == s[at+1] }
	out := ""
	for at := 0; at < len(s); {
		end := at + 1
		if twice(at) {
			for end-at < 128 && end < len(s) && s[end] == s[at] {
				end++
			}
			out += string([]byte{byte(257 - (end - at)), s[at]})
		} else {
			for end-at < 128 && end < len(s) && !twice(end) {
				end++
			}
			out += string([]byte{byte(end - at - 1)}) + s[at:end]
		}
		at = end
	}
	return out + "\x80"
}

func TestUnknown(t *testing.T) { // D3
	for _, name := range by("", "x", "FlateDecode", "ASCIIHex", "asciihexdecode", hexes+" ") {
		noMake(t, by(name), "a", api.ErrFilter)
		noTake(t, by(name), "61>", api.ErrFilter)
		noMake(t, by(name, hexes), "a", api.ErrFilter)
		noMake(t, by(hexes, name), "a", api.ErrFilter)
		noTake(t, by(hexes, name), "61>", api.ErrFilter)
		noTake(t, by(name, hexes), "g", api.ErrFilter)
		// What comes ahead is told first.
		noTake(t, by(hexes, name), "g>", api.ErrText)
		noTake(t, by(hexes, name), "61", api.ErrEnd)
		noTake(t, by(fives, name), strings.Repeat("z", 5001)+"~>", api.ErrMany)
		noMake(t, by(name, hexes), strings.Repeat("a", 10000), api.ErrMany)
		noMake(t, by(hexes, name), strings.Repeat("a", 10000), api.ErrFilter)
		noMake(t, by(name), strings.Repeat("a", api.MaxData+1), api.ErrMany)
		noTake(t, by(name), strings.Repeat("a", api.MaxData+1), api.ErrMany)
	}
}

func TestData(t *testing.T) { // D3
	a := func(n int) string { return strings.Repeat("a", n) }
	makes(t, by(hexes), a(9999), strings.Repeat("61", 9999)+">")
	noMake(t, by(hexes), a(10000), api.ErrMany)
	most, err := filter.Make(by(fives), a(15998))
	if len(most) != api.MaxData || err != nil {
		t.Errorf("Make by fives: %d bytes, %v", len(most), err)
	}
	noMake(t, by(fives), a(15999), api.ErrMany)
	long := strings.Repeat("ab", api.MaxData/2)
	most, err = filter.Make(by(runs), long[:19843])
	if len(most) != api.MaxData || err != nil {
		t.Errorf("Make by runs: %d bytes, %v", len(most), err)
	}
	noMake(t, by(runs), long[:19844], api.ErrMany)
	noMake(t, by(runs), long, api.ErrMany)
	makes(t, by(runs), a(api.MaxData), strings.Repeat("\x81a", 156)+"\xe1a\x80")
	noMake(t, by(runs), a(api.MaxData+1), api.ErrMany)
	takes(t, by(fives), strings.Repeat("z", 5000)+"~>", strings.Repeat("\x00", api.MaxData))
	noTake(t, by(fives), strings.Repeat("z", 5000)+"!!~>", api.ErrMany)
	noTake(t, by(fives), strings.Repeat("z", 5001)+"~>", api.ErrMany)
	// A filter's error is told ahead of that.
	noTake(t, by(fives), strings.Repeat("z", 5001)+"v~>", api.ErrText)
	noTake(t, by(fives), strings.Repeat("z", 5001), api.ErrEnd)
	takes(t, by(hexes), "61>"+strings.Repeat("g", api.MaxData-3), "a")
	noTake(t, by(hexes), "61>"+strings.Repeat("g", api.MaxData-2), api.ErrMany)
	noTake(t, by(fives, runs), strings.Repeat("z", 5001)+"~>", api.ErrMany)
}

// drawn: bytes with runs in them.
func drawn(draw *rand.Rand) string {
	s := ""
	for range draw.Intn(8) {
		s += strings.Repeat(string([]byte{byte(draw.Intn(256))}), []int{1, 1, 2, 4, draw.Intn(10), 127, 128, 129}[draw.Intn(8)])
	}
	return s + ladder(256)[:[]int{0, 1, 128, 129}[draw.Intn(4)]]
}

func TestBack(t *testing.T) { // D1 to D3, W5
	draw := rand.New(rand.NewSource(4))
	for range 2000 {
		s := drawn(draw)
		if got, err := filter.Make(by(runs), s); got != slowRuns(s) || err != nil {
			t.Errorf("Make(%q): %q, %v, want %q", s, got, err, slowRuns(s))
		}
		var names []string
		for range draw.Intn(9) {
			names = append(names, by(hexes, fives, runs)[draw.Intn(3)])
		}
		made, err := filter.Make(names, s)
		if err == api.ErrMany {
			continue
		}
		back, again := filter.Take(names, made)
		if err != nil || again != nil || back != s {
			t.Errorf("%q of %.200q: %.200q, %v; back %.200q, %v", names, s, made, err, back, again)
		}
	}
}

func TestSpoiled(t *testing.T) { // Z1 to Z3
	draw := rand.New(rand.NewSource(7))
	for range 5000 {
		names := by(by(hexes, fives, runs, "x")[draw.Intn(4)], by(hexes, fives, runs)[draw.Intn(3)])
		kept := slices.Clone(names)
		s, _ := filter.Make(names, drawn(draw))
		b := []byte(s)
		for range draw.Intn(3) {
			if len(b) > 0 {
				b[draw.Intn(len(b))] = byte(draw.Intn(256))
			}
		}
		b = b[:draw.Intn(len(b)+1)]
		got, err := filter.Take(names[:1+draw.Intn(2)], string(b))
		if _, bare := err.(api.Errno); err != nil && (!bare || got != "") {
			t.Errorf("Take(%q, %.200q): %.200q, %v", names, b, got, err)
		}
		if !slices.Equal(names, kept) {
			t.Fatalf("%q became %q", kept, names)
		}
	}
}
