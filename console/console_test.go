package console_test

import (
	"fmt"
	"math/rand"
	"slices"
	"strconv"
	"strings"
	"testing"

	"foliowright/api"
	"foliowright/console"
	"foliowright/file"
	"foliowright/filter"
	"foliowright/fix"
	"foliowright/layout"
	"foliowright/pages"
	"foliowright/parse"
	"foliowright/press"
	"foliowright/search"
	"foliowright/value"
)

const (
	hexName  = "ASCIIHexDecode"
	fiveName = "ASCII85Decode"
	runsName = "RunLengthDecode"
)

// example: the session of the document's section 'Examples'.
const example = `build => 258
font simple 500 ab_ => ok
font wide 600 aé => ok
page => ok
run 0 10 50 700 ab a => ok
run 1 12 50 680.5 éa => ok
run 0 10 90 700.25 ba => ok
build => 1272
text 0 => ab a ba/éa
find 0 a => 0-1 [50 700 55 710]; 3-4 [65 700 70 710]; 6-7 [95 700.25 100 710.25]; 9-10 [57.2 680.5 64.4 692.5]
find 0 ab a => 0-4 [50 700 70 710]
like 0 A => 0-1 [50 700 55 710]; 3-4 [65 700 70 710]; 6-7 [95 700.25 100 710.25]; 9-10 [57.2 680.5 64.4 692.5]
find 0  => error 11
object 1 => << /Pages 2 0 R /Type /Catalog >>
object 2 => << /Count 1 /Kids [8 0 R] /MediaBox [0 0 600 800] /Resources << /Font << /F0 4 0 R /F1 6 0 R >> >> /Type /Pages >>
object 4 => << /FirstChar 0 /Subtype /Type1 /ToUnicode 3 0 R /Type /Font /Widths [500 500 500] >>
object 3 => << /Length 179 >> stream 179
object 8 => << /Contents 7 0 R /Parent 2 0 R /Type /Page >>
object 60 => error 6
filter ASCIIHexDecode RunLengthDecode => ok
build => 1906
text 0 => ab a ba/éa
object 3 => << /Filter [/ASCIIHexDecode /RunLengthDecode] /Length 377 >> stream 377
read << /a [1 2.50 (x\051) /b#20c 7 0 R] %note => error 5
read [1 => error 5
read <<>> x => 4 << >>
pack ASCII85Decode abcde => (@:E_WAH~>)
pack RunLengthDecode aaaab => (\375a\000b\200)
page => ok
run 0 10 0 0 zz => error 6
run 5 10 0 0 a => error 6
build => 2113
text 1 => 
text 2 => error 6
filter x => error 9
fly high => error 4`

// run lines: an answer to each.
func run(t *testing.T, lines []string) []string {
	t.Helper()
	l, err := console.Run(lines)
	if err != nil || len(l) != len(lines) {
		t.Fatalf("Run of %d lines: %d answers, %v", len(lines), len(l), err)
	}
	return l
}

// session of lines, each with what it is to be answered, " => " between.
func session(t *testing.T, told ...string) {
	t.Helper()
	var lines, want []string
	for _, s := range told {
		line, answer, ok := strings.Cut(s, " => ")
		if !ok {
			t.Fatalf("no answer in %q", s)
		}
		lines, want = append(lines, line), append(want, answer)
	}
	for i, got := range run(t, lines) {
		if got != want[i] {
			t.Errorf("%.200q, behind %.400q: %q, want %q", lines[i], lines[:i], got, want[i])
		}
	}
}

// behind: what the last line is answered, all those ahead of it told.
func behind(t *testing.T, ahead []string, line string) string {
	t.Helper()
	l := run(t, append(slices.Clone(ahead), line))
	return l[len(l)-1]
}

// some: a spec of a font and a page with two lines of text, built.
func some() []string {
	return []string{"font simple 500 abA_", "page", "run 0 10 0 100 ab A", "run 0 10 0 50 ba", "build"}
}

// same: are both sessions, told the same lines at their end, answered the same then?
func same(t *testing.T, one, other []string) {
	t.Helper()
	ask := []string{"build", "text 0", "text 1", "find 0 a", "object 2", "object 3", "object 4", "object 6", "object 7"}
	a, b := run(t, append(slices.Clone(one), ask...)), run(t, append(slices.Clone(other), ask...))
	if !slices.Equal(a[len(one):], b[len(other):]) {
		t.Errorf("behind %.500q: %q; behind %.500q: %q", one, a[len(one):], other, b[len(other):])
	}
}

func TestExample(t *testing.T) { // N1, N2
	session(t, strings.Split(example, "\n")...)
}

func TestLines(t *testing.T) { // N1: each line of the table
	session(t, "font simple 500 ab => ok")
	session(t, "font wide 500 ab => ok")
	session(t, "filter "+hexName+" => ok")
	session(t, "page => ok")
	session(t, "font simple 500 ab => ok", "page => ok", "run 0 10 1 2 ab => ok")
	session(t, "build => 258")
	session(t, "page => ok", "build => 415", "text 0 => ")
	session(t, "page => ok", "build => 415", "find 0 a => -")
	session(t, "page => ok", "build => 415", "like 0 a => -")
	session(t, "build => 258", "object 1 => << /Pages 2 0 R /Type /Catalog >>")
	session(t, "read [1 2] => 5 [1 2]")
	session(t, "pack "+hexName+" ab => (6162>)")
	if l, err := console.Run(nil); len(l) != 0 || err != nil {
		t.Errorf("Run(nil): %q, %v", l, err)
	}
}

func TestFont(t *testing.T) { // N1
	at := []string{"page"}
	for _, c := range []struct{ line, want string }{
		{"font simple 500 a", "<< /FirstChar 0 /Subtype /Type1 /ToUnicode 3 0 R /Type /Font /Widths [500] >>"},
		{"font simple 0 abc", "<< /FirstChar 0 /Subtype /Type1 /ToUnicode 3 0 R /Type /Font /Widths [0 0 0] >>"},
		{"font simple 7 a_é", "<< /FirstChar 0 /Subtype /Type1 /ToUnicode 3 0 R /Type /Font /Widths [7 7 7] >>"},
		{"font simple 999 _", "<< /FirstChar 0 /Subtype /Type1 /ToUnicode 3 0 R /Type /Font /Widths [999] >>"},
		{"font wide 10 €😀", "<< /Subtype /Type0 /ToUnicode 3 0 R /Type /Font /W [0 [10 10]] >>"},
		{"font wide 100 _", "<< /Subtype /Type0 /ToUnicode 3 0 R /Type /Font /W [0 [100]] >>"},
	} {
		l := run(t, append(slices.Clone(at), c.line, "build", "object 4", "object 5"))
		if l[1] != "ok" || l[3] != c.want || !strings.HasSuffix(l[4], " stream 0") {
			t.Errorf("%q: %q, want %q", c.line, l, c.want)
		}
	}
	session(t, "font simple 500 a => ok", "font wide 600 a => ok", "font wide 1 b => ok", "font simple 1 b => ok", "font simple 1 c => error 2",
		"page => ok", "run 3 10 0 0 b => ok", "run 4 10 0 0 c => error 6")
	for _, line := range []string{
		"font", "font ", "font simple", "font simple ", "font simple 500", "font simple 500 ", "font 500 ab", "font simple ab", "font x 500 a", "font Simple 500 a", "font wide,simple 500 a",
		"font simple 500 a b", "font simple 500 a ", "font simple 500  a", "font simple  500 a", "font  simple 500 a", " font simple 500 a", "Font simple 500 a", "fonts simple 500 a", "font\tsimple\t500\ta",
		"font simple 1000 a", "font simple 0500 a", "font simple 00 a", "font simple -5 a", "font simple +5 a", "font simple 5.0 a", "font simple x a", "font simple 5x a", "font simple ５ a", "font simple 500 500 a",
	} {
		session(t, line+" => error 4", "page => ok", "run 0 10 0 0  => error 6")
	}
	session(t, "font simple 500 aa => error 3", "font simple 500 __ => error 3", "font simple 500 a_b_ => error 3", "font wide 1 é_é => error 3", "font wide 1 \xff => error 3",
		"font simple 1 "+strings.Repeat("a", 200)+" => error 3", "font simple 1 "+strings.Repeat("a", 201)+" => error 2", "page => ok", "run 0 1 0 0  => error 6")
}

func TestBlankSign(t *testing.T) { // N1: '_' stands for a blank, in SIGNS alone
	session(t, "font simple 500 a_ => ok", "page => ok", "run 0 10 0 0 a a => ok", "run 0 10 0 0 a_a => error 6", "build => 791", "text 0 => a a",
		"find 0   => 1-2 [5 0 10 10]", "find 0 _ => -", "find 0 a a => 0-3 [0 0 15 10]")
}

func TestFilter(t *testing.T) { // N1
	ahead := some()
	for _, c := range []struct{ line, want string }{
		{"filter " + hexName, "/ASCIIHexDecode"},
		{"filter " + fiveName + " " + runsName, "/ASCII85Decode /RunLengthDecode"},
		{"filter " + runsName + " " + fiveName, "/RunLengthDecode /ASCII85Decode"},
		{"filter " + hexName + " " + hexName + " " + runsName, "/ASCIIHexDecode /ASCIIHexDecode /RunLengthDecode"},
	} {
		for _, first := range []string{"page", "filter " + hexName, "filter " + runsName + " " + hexName + " " + fiveName} { // they are those, not some more
			l := run(t, append(slices.Clone(ahead), first, c.line, "build", "object 5", "text 0"))[len(ahead):]
			if l[1] != "ok" || !strings.HasPrefix(l[3], "<< /Filter ["+c.want+"] /Length ") || l[4] != "ab A/ba" {
				t.Errorf("%q: %q", c.line, l)
			}
		}
	}
	for line, want := range map[string]string{
		"filter": "error 4", "filter ": "error 4", "filter  " + hexName: "error 4", "filter " + hexName + " ": "error 4", "filter " + hexName + "  " + runsName: "error 4",
		" filter " + hexName: "error 4", "filters " + hexName: "error 4", "filter\t" + hexName: "error 4",
		"filter x": "error 9", "filter " + hexName + " x": "error 9", "filter x " + hexName: "error 9", "filter asciihexdecode": "error 9", "filter /" + hexName: "error 9", "filter " + hexName + "\t" + hexName: "error 9", "filter _": "error 9",
		"filter " + hexName + " " + hexName + " " + hexName + " " + hexName: "error 2", "filter a b c d": "error 2",
	} {
		for _, first := range []string{"page", "filter " + runsName} {
			ahead := append(some(), first)
			if got := behind(t, ahead, line); got != want {
				t.Errorf("%q: %q, want %q", line, got, want)
			}
			same(t, append(slices.Clone(ahead), line), ahead)
		}
	}
}

func TestPage(t *testing.T) { // N1
	var l []string
	for range api.MaxPages {
		l = append(l, "page => ok")
	}
	session(t, append(l, "page => error 2", "build => 2190", "text 0 => ", "text 11 => ", "text 12 => error 6")...)
	session(t, "page  => error 4", " page => error 4", "page 1 => error 4", "pages => error 4", "Page => error 4", "build => 258")
	session(t, "font simple 500 ab => ok", "page => ok", "run 0 10 0 0 a => ok", "page => ok", "run 0 10 0 0 b => ok", "page => ok", "build => 1136", "text 0 => a", "text 1 => b", "text 2 => ")
}

func TestRun(t *testing.T) { // N1
	ahead := []string{"font simple 500 ab_é", "font wide 250 xy", "page"}
	for _, c := range []struct{ line, text, find string }{
		{"run 0 10 0 0 ab", "ab", "0-2 [0 0 10 10]"},
		{"run 1 10 0 0 xy", "xy", "0-2 [0 0 5 10]"},
		{"run 0 12.5 50 700.25 ab a", "ab a", "0-4 [50 700.25 75 712.75]"},
		{"run 0 10 0 0  a", " a", "0-2 [0 0 10 10]"},
		{"run 0 10 0 0 a  b ", "a  b ", "0-5 [0 0 25 10]"},
		{"run 0 10 0 0  ", " ", "0-1 [0 0 5 10]"},
		{"run 0 10 0 0 é", "é", "0-1 [0 0 5 10]"},
		{"run 0 +10.0 -1.5 -.25 a", "a", "0-1 [-1.5 -0.25 3.5 9.75]"},
		{"run 0 0010 0007 1. a", "a", "0-1 [7 1 12 11]"},
		{"run 0 10 1.9999 -1.9999 a", "a", "0-1 [1.999 -1.999 6.999 8.001]"},
		{"run 0 1000 1000 -1000 a", "a", "0-1 [1000 -1000 1500 0]"},
		{"run 0 0 1 2 a", "a", "0-1 [1 2 1 2]"},
		{"run 0 -10 0 0 a", "a", "0-1 [-5 -10 0 0]"},
	} {
		l := run(t, append(slices.Clone(ahead), c.line, "build", "text 0", "find 0 "+c.text))[len(ahead):]
		if l[0] != "ok" || l[2] != c.text || l[3] != c.find {
			t.Errorf("%q: %q, want %q, %q", c.line, l, c.text, c.find)
		}
	}
	session(t, "font simple 500 a => ok", "page => ok", "build => 701", "run 0 10 1 2  => ok", "build => 731", "text 0 => ", "object 5 => << /Length 29 >> stream 29") // nothing behind the fourth blank
	for line, want := range map[string]string{
		"run": "error 4", "run ": "error 4", "run 0": "error 4", "run 0 1 2": "error 4", "run 0 10 0 0": "error 4", // the fourth blank isn't there
		"run  0 10 0 0 a": "error 4", "run 0  10 0 0 a": "error 4", "run 0 10  0 0 a": "error 4", "run 0 10 0  0 a": "error 4", " run 0 10 0 0 a": "error 4", "runs 0 10 0 0 a": "error 4",
		"run x 10 0 0 a": "error 4", "run -1 10 0 0 a": "error 4", "run 00 10 0 0 a": "error 4", "run 01 10 0 0 a": "error 4", "run 1000 10 0 0 a": "error 4", "run 0.0 10 0 0 a": "error 4",
		"run 2 10 0 0 a": "error 6", "run 10 10 0 0 ": "error 6", "run 999 10 0 0 a": "error 6",
		"run 0 x 0 0 a": "error 4", "run 0 10 x 0 a": "error 4", "run 0 10 0 x a": "error 4", "run 0 1e1 0 0 a": "error 4", "run 0 - 0 0 a": "error 4", "run 0 . 0 0 a": "error 4", "run 0 --1 0 0 a": "error 4",
		"run 0 1000001 0 0 a": "error 1", "run 0 10 -1000001 0 a": "error 1", "run 0 10 0 99999999999999999999 a": "error 1",
		"run 0 1000.001 0 0 a": "error 1", "run 0 10 -1000.001 0 a": "error 1", "run 0 10 0 1000.001 a": "error 1",
		"run 0 10 0 0 c": "error 6", "run 0 10 0 0 ab_": "error 6", "run 1 10 0 0 a": "error 6", "run 0 10 0 0 a\xff": "error 3",
		"run 0 10 0 0 " + strings.Repeat("a", 201): "error 2", "run 1 10 0 0 " + strings.Repeat("x", 101): "error 2",
		// The first of several that are wrong is told.
		"run x 1000001 0 0 a": "error 4", "run 0 1000001 x 0 a": "error 1", "run 0 x 1000001 0 a": "error 4", "run 0 10 1000001 x a": "error 1", "run 7 1000001 0 0 a": "error 1", "run 7 1000.001 0 0 c": "error 6", "run 0 1000.001 0 0 c": "error 1",
	} {
		ahead := append(slices.Clone(ahead), "run 0 10 0 0 ab")
		if got := behind(t, ahead, line); got != want {
			t.Errorf("%.100q: %q, want %q", line, got, want)
		}
		same(t, append(slices.Clone(ahead), line), ahead)
	}
	session(t, "font simple 1 ax => ok", "font wide 1 xy => ok", "page => ok", "run 0 10 0 0 "+strings.Repeat("a", 200)+" => ok", "run 1 10 0 0 "+strings.Repeat("x", 100)+" => ok")
}

func TestRunWithoutPage(t *testing.T) { // N1: ErrText, ahead of all else
	for _, line := range []string{"run 0 10 0 0 a", "run 0 10 0 0 ", "run 0 1000001 0 0 a", "run 7 10 0 0 a", "run 0 1000.001 0 0 a", "run 0 10 0 0 zz"} {
		session(t, line+" => error 4", "font simple 500 a => ok", line+" => error 4", "build => 544", line+" => error 4", "page => ok", "build => 701", "text 0 => ")
	}
}

func TestRunsOfPages(t *testing.T) { // N1: on the last page; M1: at most 30
	lines := []string{"font simple 100 a", "page", "run 0 10 0 0 a", "page"}
	for range 30 {
		lines = append(lines, "run 0 1 0 0 a")
	}
	lines = append(lines, "run 0 1 0 0 a", "build", "text 0", "text 1", "page", "run 0 1 0 0 aa", "build", "text 0", "text 1", "text 2")
	l := run(t, lines)[4+30:]
	want := []string{"error 2", "", "a", strings.Repeat("a", 30), "ok", "ok", "", "a", strings.Repeat("a", 30), "aa"}
	l[1], l[6] = "", ""
	if !slices.Equal(l, want) {
		t.Errorf("%q, want %q", l, want)
	}
}

func TestBuildAnew(t *testing.T) { // N1: the file and the pages are those that were built last, whatever the spec is by now
	session(t, "font simple 500 ab => ok", "page => ok", "run 0 10 0 0 a => ok", "text 0 => error 6", "find 0 a => error 6", "object 1 => error 4",
		"build => 783", "text 0 => a", "object 5 => << /Length 33 >> stream 33",
		"run 0 10 5 0 b => ok", "page => ok", "filter "+hexName+" => ok", "text 0 => a", "text 1 => error 6", "find 0 b => -", "object 5 => << /Length 33 >> stream 33", "object 8 => error 6",
		"build => 1259", "text 0 => ab", "text 1 => ", "find 0 b => 1-2 [5 0 10 10]", "object 5 => << /Filter [/ASCIIHexDecode] /Length 133 >> stream 133", "object 8 => << /Contents 7 0 R /Parent 2 0 R /Type /Page >>",
		"build => 1259", "text 0 => ab")
}

func TestBuildFails(t *testing.T) { // N1: what can't be read leaves the file and the pages
	lines := []string{"font simple 1 ab", "page", "run 0 1 0 0 b", "build"}
	for range 10 {
		lines = append(lines, "run 0 1 0 0 "+strings.Repeat("a", 100))
	}
	lines = append(lines, "build", "text 0", "object 5", "page", "build", "text 1")
	l := run(t, lines)
	if want := []string{"error 2", "b", "<< /Length 32 >> stream 32", "ok", "error 2", "error 6"}; !slices.Equal(l[14:], want) {
		t.Errorf("%q, want %q", l[14:], want)
	}
	// Built, but beyond what a stream may be.
	lines = []string{"font simple 1 " + signs(200), "page", "build", "filter " + hexName, "build", "filter " + hexName + " " + hexName, "build", "text 0", "object 3"}
	l = run(t, lines)
	if want := []string{"ok", "error 2", "", "<< /Filter [/ASCIIHexDecode] /Length 17301 >> stream 17301"}; !slices.Equal(l[5:], want) {
		t.Errorf("%q, want %q", l[5:], want)
	}
	for _, line := range []string{"build ", " build", "build 1", "Build", "builds"} {
		session(t, line+" => error 4", "object 1 => error 4")
	}
}

// signs: so many that differ, from the sign ! on, but for '_'.
func signs(many int) string {
	var b strings.Builder
	for r := '!'; many > 0; r++ {
		if r != '_' && r != 0x7f {
			b.WriteRune(r)
			many--
		}
	}
	return b.String()
}

func TestText(t *testing.T) { // N1
	ahead := []string{"font simple 500 abcd_/", "page", "run 0 10 0 100 ab", "run 0 10 50 100 c", "run 0 10 0 80 b", "run 0 10 0 60 d a", "run 0 10 0 40 a/b", "page", "page", "run 0 10 0 0 c"}
	session(t, append(asOK(ahead), "build => 1486", "text 0 => ab c/b/d a/a/b", "text 1 => ", "text 2 => c", "text 3 => error 6")...)
	ahead = append(ahead, "build")
	for line, want := range map[string]string{
		"text 12": "error 6", "text 999": "error 6", "text 1000": "error 6", "text 00": "error 6", "text 01": "error 6", "text 000": "error 6", "text x": "error 6", "text -1": "error 6", "text +0": "error 6", "text 0.0": "error 6", "text 0x": "error 6", "text ０": "error 6", "text \t0": "error 6", // no number
		"text ": "error 6", "text  ": "error 6", "text  0": "error 6", // nor is nothing
		"text 0 x": "error 4", "text 0 ": "error 4", "text 0  ": "error 4", "text 0 0": "error 4", "text": "error 4", " text 0": "error 4", "Text 0": "error 4", "texts 0": "error 4", "text0": "error 4", "text\t0": "error 4",
		"text 3 x": "error 6", "text x 0": "error 6", // that there is no such page is told first
	} {
		if got := behind(t, ahead, line); got != want {
			t.Errorf("%q: %q, want %q", line, got, want)
		}
	}
}

// asOK: lines, each answered by ok.
func asOK(lines []string) []string {
	var l []string
	for _, line := range lines {
		l = append(l, line+" => ok")
	}
	return l
}

func TestEndsOfLines(t *testing.T) { // N1, Z3: an end of a line is the byte 10, also where a run has it
	session(t, "font simple 500 ab\n => ok", "page => ok", "run 0 10 0 100 a\nb => ok", "run 0 10 0 50 \n\n => ok", "run 0 10 0 0 b => ok", "build => 912", "text 0 => a/b////b")
}

func TestFind(t *testing.T) { // N1
	ahead := []string{"font simple 500 abA_", "page", "run 0 10 0 100 ab", "run 0 10 50 100 A", "run 0 10 0 50 bab", "page", "build"}
	for line, want := range map[string]string{
		"find 0 a": "0-1 [0 100 5 110]; 6-7 [5 50 10 60]", "like 0 a": "0-1 [0 100 5 110]; 3-4 [50 100 55 110]; 6-7 [5 50 10 60]", "find 0 A": "3-4 [50 100 55 110]", "like 0 A": "0-1 [0 100 5 110]; 3-4 [50 100 55 110]; 6-7 [5 50 10 60]",
		"find 0 ab": "0-2 [0 100 10 110]; 6-8 [5 50 15 60]", "like 0 AB": "0-2 [0 100 10 110]; 6-8 [5 50 15 60]", "find 0 AB": "-", "find 0 c": "-", "like 0 c": "-", "find 1 a": "-", "like 1 a": "-",
		"find 0 b A": "1-4 [5 100 55 110]", "find 0  A": "2-4 [50 100 55 110]", "find 0 b ": "1-3 [5 100 10 110]", "find 0 b  A": "-",
		"find 0  ":  "2-3", // a blank between glyphs: no box is around it
		"find 0 \n": "4-5", "find 0 A\nb": "3-6 [50 100 55 110] [0 50 5 60]", "like 0 a\nB": "3-6 [50 100 55 110] [0 50 5 60]", "find 0 ab A\nbab": "0-8 [0 100 55 110] [0 50 15 60]", "find 0 A/b": "-",
		"find 0": "error 11", "find 0 ": "error 11", "like 0": "error 11", "like 0 ": "error 11", "find 1 ": "error 11", // nothing is looked for
		"find 2 a": "error 6", "find 2 ": "error 6", "find 2": "error 6", "like 2 a": "error 6", "find 999 a": "error 6", "find 1000 a": "error 6", "find 00 a": "error 6", "find 01 a": "error 6", "find x a": "error 6", "find -1 a": "error 6", "like x a": "error 6", "find a": "error 6", "find a b": "error 6", "find  0 a": "error 6", "find  a": "error 6", "find ": "error 6",
		"find": "error 4", "like": "error 4", " find 0 a": "error 4", "Find 0 a": "error 4", "finds 0 a": "error 4", "find\t0 a": "error 4",
	} {
		if got := behind(t, ahead, line); got != want {
			t.Errorf("%q: %q, want %q", line, got, want)
		}
	}
}

func TestObject(t *testing.T) { // N1
	ahead := []string{"font wide 500 ab", "page", "run 0 10 0 0 a", "filter " + hexName, "build"}
	for line, want := range map[string]string{
		"object 1": "<< /Pages 2 0 R /Type /Catalog >>",
		"object 2": "<< /Count 1 /Kids [6 0 R] /MediaBox [0 0 600 800] /Resources << /Font << /F0 4 0 R >> >> /Type /Pages >>",
		"object 3": "<< /Filter [/ASCIIHexDecode] /Length 297 >> stream 297", // as it stands in the file, not taken apart
		"object 4": "<< /Subtype /Type0 /ToUnicode 3 0 R /Type /Font /W [0 [500 500]] >>",
		"object 5": "<< /Filter [/ASCIIHexDecode] /Length 75 >> stream 75",
		"object 6": "<< /Contents 5 0 R /Parent 2 0 R /Type /Page >>",
		"object 0": "error 6", "object 7": "error 6", "object 60": "error 6", "object 61": "error 6", "object 999": "error 6",
		"object": "error 4", "object ": "error 4", "object  1": "error 4", "object 1 ": "error 4", "object 1 x": "error 4", "object 1 1": "error 4", " object 1": "error 4", "objects 1": "error 4", "object\t1": "error 4",
		"object 1000": "error 4", "object 01": "error 4", "object 001": "error 4", "object 00": "error 4", "object x": "error 4", "object -1": "error 4", "object +1": "error 4", "object 1.0": "error 4", "object 1x": "error 4",
	} {
		if got := behind(t, ahead, line); got != want {
			t.Errorf("%q: %q, want %q", line, got, want)
		}
	}
}

func TestAheadOfFiles(t *testing.T) { // N1, N2
	session(t, "text 0 => error 6", "text 0 x => error 6", "text x => error 6", "find 0 a => error 6", "find 0  => error 6", "like 0 a => error 6", "object 1 => error 4", "object 60 => error 4", "object 61 => error 4", "object x => error 4",
		"page => ok", "text 0 => error 6", "find 0 a => error 6", "object 1 => error 4", "build => 415", "text 0 => ", "find 0 a => -", "object 1 => << /Pages 2 0 R /Type /Catalog >>")
	session(t, "build => 258", "text 0 => error 6", "find 0 a => error 6", "object 1 => << /Pages 2 0 R /Type /Catalog >>", "object 2 => << /Count 0 /Kids [] /MediaBox [0 0 600 800] /Resources << /Font << >> >> /Type /Pages >>", "object 3 => error 6")
}

func TestRead(t *testing.T) { // N1
	session(t, "read null => 4 null", "read true x => 4 true", "read  false => 6 false", "read 12.50 => 5 12.5", "read -.001 => 5 -0.001", "read 7 0 R 8 => 5 7 0 R", "read 7 0 => 1 7",
		`read (a(b)\051\n) => 12 (a\(b\)\)\012)`, "read <6a 6B7> => 8 (jkp)", "read /b#20c => 6 /b#20c", "read [1 [2] (x)]] => 11 [1 [2] (x)]", "read <</b 1/a 2>> => 12 << /a 2 /b 1 >>", "read %note\n[] x => 8 []", "read (é) => 4 (\\303\\251)",
		"read => error 4", "read  => error 5", "read   => error 5", "read [1 => error 5", "read << => error 5", "read %x => error 5", "read ] => error 4", "read x => error 4", "read 1000001 => error 1", "read <</a 1/a 1>> => error 3",
		"read [[[[[[[1]]]]]]] => 15 [[[[[[[1]]]]]]]", "read [[[[[[[[1]]]]]]]] => error 2", " read 1 => error 4", "Read 1 => error 4", "read\t1 => error 4")
	full := strings.Repeat("x", api.MaxBytes)
	session(t, "read ("+full+") => 202 ("+full+")", "read ("+full+"x) => error 2")
}

func TestPack(t *testing.T) { // N1
	session(t, "pack "+hexName+" a b => (612062>)", "pack "+hexName+"  a => (2061>)", "pack "+hexName+"  => (>)", "pack "+fiveName+"  => (~>)", "pack "+runsName+"  => (\\200)",
		"pack "+fiveName+" abc => (@:E^~>)", "pack "+runsName+" aaa => (\\376a\\200)", "pack "+runsName+" (\\) => (\\002\\(\\\\\\)\\200)", "pack "+hexName+" é => (C3A9>)",
		"pack x y => error 9", "pack x  => error 9", "pack asciihexdecode a => error 9", "pack /"+hexName+" a => error 9",
		"pack => error 4", "pack  => error 4", "pack "+hexName+" => error 4", "pack x => error 4", "pack   => error 4", "pack  "+hexName+" a => error 4", " pack "+hexName+" a => error 4", "packs "+hexName+" a => error 4")
	mixed := func(n int) string { return strings.Repeat("ab", n)[:n] }
	for _, c := range []struct {
		name string
		most int // of how many bytes it still makes a string, of that many bytes itself
		is   int
	}{{hexName, 99, 199}, {fiveName, 158, 200}, {runsName, 197, 200}} {
		for n := range 380 {
			made, err := filter.Make([]string{c.name}, mixed(n))
			if err != nil || n == c.most && len(made) != c.is {
				t.Fatalf("%s of %d bytes: %d, %v", c.name, n, len(made), err)
			}
			want := ""
			if n <= c.most {
				if want, err = value.Text(api.Value{Kind: api.Str, S: made}); err != nil {
					t.Fatal(err)
				}
			}
			session(t, "pack "+c.name+" "+mixed(n)+" => "+want)
		}
	}
}

func TestManyLines(t *testing.T) { // N1
	var lines []string
	for n := range api.MaxLines + 40 {
		l, err := console.Run(lines)
		if n > api.MaxLines {
			if err != api.ErrMany || len(l) != 0 {
				t.Errorf("%d lines: %d answers, %v", n, len(l), err)
			}
		} else if err != nil || len(l) != n {
			t.Errorf("%d lines: %d answers, %v", n, len(l), err)
		}
		lines = append(lines, "read 1")
	}
}

func TestLongLines(t *testing.T) { // N2
	for _, verb := range []string{"read 1 ", "pack " + runsName + " ", "find 0 ", "like 0 "} {
		most := verb + strings.Repeat("a", api.MaxLine-len(verb))
		for _, more := range []string{"a", " ", "aaa", strings.Repeat("a", 100000)} {
			l := run(t, append(some(), most, most+more))[len(some()):]
			if strings.HasPrefix(l[0], "error") || l[1] != "error 4" {
				t.Errorf("%s: %q", verb, l)
			}
		}
	}
	// Bytes are counted, not signs.
	full := "read 1 %" + strings.Repeat("é", (api.MaxLine-8)/2)
	session(t, full+" => 1 1", full+"é => error 4", full+"x => error 4")
	page := "run 0 1 0 0 " + strings.Repeat("é", 194)
	session(t, "font simple 1 é => ok", "page => ok", page+" => ok", page+"é => error 4", "build => 1506", "text 0 => "+strings.Repeat("é", 194))
}

func TestNoneOfThese(t *testing.T) { // N2
	for _, line := range []string{"", " ", "  ", "fly", "fly high", "\n", "\t", "\x00", "error 4", "ok", "-", "é", "\xff", "pageé", "page\n", "build\n", "PAGE", "help", "text\n0", "0", "page page", "build build"} {
		for _, ahead := range [][]string{nil, some()} {
			if got := behind(t, ahead, line); got != "error 4" {
				t.Errorf("%q: %q", line, got)
			}
			same(t, append(slices.Clone(ahead), line), ahead)
		}
	}
}

// TestRefused: a spec that may not be leaves the one that is; a line that asks for something changes nothing.
func TestRefused(t *testing.T) { // N1
	for _, line := range []string{
		"font simple 500 aa", "font simple 500 \xff", "font wide 1 __", "filter x", "filter " + hexName + " x", "filter a b c d", "run 9 10 0 0 a", "run 0 1001 0 0 a", "run 0 10 0 0 z", "run 0 x 0 0 a", "run 0 10 0 0",
		"text 0", "text 9", "find 0 a", "like 0 a", "object 1", "object 9", "read [1 2]", "read <<", "pack " + hexName + " a", "pack x y", "build",
	} {
		for _, ahead := range [][]string{some(), append(some(), "filter "+runsName, "font wide 1 é", "page", "run 1 10 0 0 éé"), {"font simple 500 a", "page", "run 0 10 0 0 a"}} {
			same(t, append(slices.Clone(ahead), line), ahead)
			same(t, append(slices.Clone(ahead), line, line), ahead)
			same(t, append(slices.Clone(ahead), line, "run 0 10 7 7 a"), append(slices.Clone(ahead), "run 0 10 7 7 a"))
		}
	}
}

func TestNumbers(t *testing.T) { // N1: at most three digits, without noughts ahead
	ahead := []string{"font simple 1 a", "page", "build"}
	for n := range 1100 {
		word := strconv.Itoa(n)
		want := []string{"ok", "error 6", "error 6", "error 6"}
		switch {
		case n == 0:
			want[1], want[2] = "", "ok"
		case n == 1: // its style is the one that was added
			want[2], want[3] = "ok", "<< /Pages 2 0 R /Type /Catalog >>"
		case n > 999:
			want = []string{"error 4", "error 6", "error 4", "error 4"}
		}
		l := run(t, append(slices.Clone(ahead), "font wide "+word+" b", "text "+word, "run "+word+" 1 1 1 ", "object "+word))[len(ahead):]
		if n > 1 && n < 7 { // they are there; TestObject has them
			l[3] = want[3]
		}
		if !slices.Equal(l, want) {
			t.Errorf("%d: %q, want %q", n, l, want)
		}
	}
}

// model of a session: what lines make of a spec, told without any lines.
type model struct {
	spec  api.Spec
	text  string
	pages []api.Page
}

// made: a spec is changed, if it may be.
func (m *model) made(to api.Spec) string {
	if err := press.Check(to); err != nil {
		return number(err)
	}
	m.spec = to
	return "ok"
}

// number of an error, as it is answered.
func number(err error) string { return fmt.Sprintf("error %d", err) }

// draw: one of these.
func draw[T any](r *rand.Rand, l ...T) T { return l[r.Intn(len(l))] }

// thousandths as a number's text.
func thousandths(n int) string {
	s, err := fix.Text(n)
	if err != nil {
		panic(err)
	}
	return s
}

// change of the spec: a line, and its answer.
func (m *model) change(r *rand.Rand) (string, string) {
	to := api.Spec{Styles: slices.Clone(m.spec.Styles), Filter: m.spec.Filter}
	for _, p := range m.spec.Pages {
		to.Pages = append(to.Pages, slices.Clone(p))
	}
	switch k := r.Intn(8); {
	case k == 0:
		width, signs := r.Intn(1000), draw(r, "ab ", "aé", "bb", "Ab é", " €😀")
		wide := r.Intn(2) == 0
		to.Styles = append(to.Styles, api.Style{Wide: wide, Signs: signs, Widths: slices.Repeat([]int{width}, len([]rune(signs)))})
		return fmt.Sprint("font ", map[bool]string{false: "simple", true: "wide"}[wide], " ", width, " ", strings.ReplaceAll(signs, " ", "_")), m.made(to)
	case k == 1:
		to.Filter = draw(r, []string{hexName}, []string{runsName, hexName}, []string{fiveName, hexName, runsName}, []string{"x"})
		return "filter " + strings.Join(to.Filter, " "), m.made(to)
	case k == 2:
		to.Pages = append(to.Pages, nil)
		return "page", m.made(to)
	}
	x := api.Run{Font: r.Intn(3), Size: draw(r, 10000, 12500, -333, 0, 1000001), At: api.Point{X: r.Intn(300000) - 50000, Y: draw(r, 0, 50000, 51500, -7001)}, Text: draw(r, "", "a", "ab a", "é", "b b", " ", "Aé", "€")}
	line := fmt.Sprint("run ", x.Font, " ", thousandths(x.Size), " ", thousandths(x.At.X), " ", thousandths(x.At.Y), " ", x.Text)
	if len(to.Pages) == 0 {
		return line, "error 4"
	}
	last := len(to.Pages) - 1
	to.Pages[last] = append(to.Pages[last], x)
	return line, m.made(to)
}

// build the spec.
func (m *model) build(t *testing.T) (string, string) {
	s, err := press.Build(m.spec)
	if err != nil {
		return "build", number(err)
	}
	l, err := pages.Read(s)
	if err != nil {
		t.Fatalf("what was built can't be read: %v", err)
	}
	m.text, m.pages = s, l
	return "build", strconv.Itoa(len(s))
}

// ask for something of what was built, or of none of it.
func (m *model) ask(t *testing.T, r *rand.Rand) (string, string) {
	switch r.Intn(5) {
	case 0:
		s := draw(r, "[1 2", "<</x(y)>> z", "(é)", " /a#41 b", "9999999", "5 0 R")
		v, at, err := parse.Value(s, 0)
		if err != nil {
			return "read " + s, number(err)
		}
		text, _ := value.Text(v)
		return "read " + s, fmt.Sprint(at, " ", text)
	case 1:
		n := r.Intn(12)
		return fmt.Sprint("object ", n), m.object(t, n)
	case 2:
		n := r.Intn(3)
		if n >= len(m.pages) {
			return fmt.Sprint("text ", n), "error 6"
		}
		return fmt.Sprint("text ", n), strings.ReplaceAll(string(layout.Of(m.pages[n].Glyphs).Signs), "\n", "/")
	}
	n, p, alike := r.Intn(2), draw(r, "a", "b", "ab", " ", "a\n", "é", "A", ""), r.Intn(2) == 0
	line := fmt.Sprint(map[bool]string{false: "find", true: "like"}[alike], " ", n, " ", p)
	if n >= len(m.pages) {
		return line, "error 6"
	}
	hits, err := search.Page(m.pages[n].Glyphs, p, alike)
	if err != nil {
		return line, number(err)
	}
	var l []string
	for _, h := range hits {
		s := fmt.Sprintf("%d-%d", h.From, h.To)
		for _, b := range h.Boxes {
			s += fmt.Sprintf(" [%s %s %s %s]", thousandths(b.X0), thousandths(b.Y0), thousandths(b.X1), thousandths(b.Y1))
		}
		l = append(l, s)
	}
	if l == nil {
		return line, "-"
	}
	return line, strings.Join(l, "; ")
}

// object of the file that was built.
func (m *model) object(t *testing.T, n int) string {
	if m.text == "" {
		return "error 4"
	}
	f, err := file.Read(m.text)
	if err != nil {
		t.Fatal(err)
	}
	o, err := f.Get(n)
	if err != nil {
		return number(err)
	}
	s, err := value.Text(o.V)
	if err != nil {
		t.Fatal(err)
	}
	if o.Stream {
		s += fmt.Sprint(" stream ", len(o.Data))
	}
	return s
}

// TestModel: sessions are answered as the layers above say of a spec that was made without lines.
func TestModel(t *testing.T) { // N1, N2, W1, W4
	r := rand.New(rand.NewSource(1))
	for range 150 {
		var m model
		var lines, want []string
		add := func(line, answer string) { lines, want = append(lines, line), append(want, answer) }
		for range api.MaxLines {
			switch k := r.Intn(10); {
			case k < 5:
				add(m.change(r))
			case k < 7:
				add(m.build(t))
			default:
				add(m.ask(t, r))
			}
		}
		for i, got := range run(t, lines) {
			if got != want[i] {
				t.Fatalf("%q, behind %q: %q, want %q", lines[i], lines[:i], got, want[i])
			}
		}
	}
}

// TestAnyLines: whatever the lines are, each is answered, and the same each time.
func TestAnyLines(t *testing.T) { // Z1, Z2, N2
	r := rand.New(rand.NewSource(2))
	parts := []string{"font", "simple", "wide", "filter", "page", "run", "build", "text", "find", "like", "object", "read", "pack", "0", "1", "10", "999", "1000", "-1", "00", "é", "ab_", "ab", "\xff", "\x00", "\n", "", "", "_", "<<", "[", "(", ")", "/#", "%", hexName, runsName, fiveName, strings.Repeat("a", 150), "99999999999999999999"}
	for range 1000 {
		var lines []string
		for range 1 + r.Intn(api.MaxLines) {
			if r.Intn(3) == 0 {
				lines = append(lines, draw(r, "font simple 500 ab_", "page", "run 0 10 0 0 ab", "build", "filter "+hexName))
				continue
			}
			var l []string
			for range r.Intn(8) {
				l = append(l, draw(r, parts...))
			}
			lines = append(lines, strings.Join(l, " "))
		}
		kept := slices.Clone(lines)
		first := run(t, lines)
		if !slices.Equal(lines, kept) || !slices.Equal(first, run(t, kept)) {
			t.Fatalf("%q: answered %q at first", lines, first)
		}
	}
}

// TestLinesStay: lines are neither written into nor looked behind, and a session leaves nothing for the next one.
func TestLinesStay(t *testing.T) { // Z2
	lines := append(some(), "text 0", "page", "page")
	kept := slices.Clone(lines)
	part := lines[:6]
	l, err := console.Run(part)
	if err != nil || len(l) != 6 || l[5] != "ab A/ba" || !slices.Equal(lines, kept) {
		t.Errorf("%q, %v; the lines are %q", l, err, lines)
	}
	for i := range l[:cap(l)] {
		l[:cap(l)][i] = "spoilt"
	}
	again, err := console.Run(part)
	if err != nil || again[5] != "ab A/ba" || !slices.Equal(lines, kept) {
		t.Errorf("%q, %v; the lines are %q", again, err, lines)
	}
	session(t, "text 0 => error 6", "object 1 => error 4", "run 0 10 0 0 a => error 4", "build => 258")
}
