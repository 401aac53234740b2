package fix_test

import (
	"math"
	"math/big"
	"slices"
	"strings"
	"testing"

	"foliowright/api"
	"foliowright/fix"
)

// edges: numbers at which something changes; those in none are no numbers.
var (
	edges = []int{0, 1, -1, 2, -2, 7, 499, -499, 500, -500, 999, -999, 1000, -1000, 1001, -1001, 1999, 31622, -31622,
		31623, 123456, -123456, 1000000, -1000000, 999999, 400000000, -400000000, 999999999, -999999999, api.MaxFix, -api.MaxFix}
	none = []int{api.MaxFix + 1, -api.MaxFix - 1, math.MaxInt32 + 1, math.MinInt32 - 1, math.MaxInt, math.MinInt, math.MinInt + 1}
)

// die: numbers that look drawn, the same each time.
type die uint64

func (d *die) n(most int) int {
	*d = *d*6364136223846793005 + 1442695040888963407
	return int(uint64(*d>>33) % uint64(most))
}

// number: an edge, or a small, or any one.
func (d *die) number() int {
	switch d.n(4) {
	case 0:
		return edges[d.n(len(edges))]
	case 1:
		return d.n(2*api.MaxFix+1) - api.MaxFix
	case 2:
		return d.n(2000001) - 1000000
	}
	return d.n(20001) - 10000
}

// isBound: is it the bare error, with a zero result?
func isBound[T comparable](x T, err error) bool {
	var zero T
	return err == api.ErrBound && x == zero
}

// exact: the thousandths of a*x + c*y, rounded down, and e, by numbers without bounds; false: that is none.
func exact(a, x, c, y, e int) (int, bool) {
	mul := func(p, q int) *big.Int { return new(big.Int).Mul(big.NewInt(int64(p)), big.NewInt(int64(q))) }
	n := mul(a, x)
	n.Add(n, mul(c, y))
	rest := new(big.Int).Mod(n, big.NewInt(1000)) // never below 0
	n.Sub(n, rest)
	n.Quo(n, big.NewInt(1000))
	n.Add(n, big.NewInt(int64(e)))
	if n.CmpAbs(big.NewInt(api.MaxFix)) > 0 {
		return 0, false
	}
	return int(n.Int64()), true
}

func TestCheck(t *testing.T) { // A1
	for _, n := range edges {
		if err := fix.Check(n); err != nil {
			t.Errorf("Check(%d): %v", n, err)
		}
	}
	for _, n := range none {
		if err := fix.Check(n); err != api.ErrBound {
			t.Errorf("Check(%d): %v", n, err)
		}
	}
}

func TestText(t *testing.T) { // A1
	for _, c := range []struct {
		n    int
		want string
	}{
		{0, "0"}, {1, "0.001"}, {-1, "-0.001"}, {10, "0.01"}, {-10, "-0.01"}, {100, "0.1"}, {-500, "-0.5"}, {120, "0.12"},
		{101, "0.101"}, {999, "0.999"}, {1000, "1"}, {-1000, "-1"}, {1001, "1.001"}, {1010, "1.01"}, {1100, "1.1"},
		{10000, "10"}, {100000, "100"}, {-20050, "-20.05"}, {123456, "123.456"}, {700250, "700.25"},
		{999999999, "999999.999"}, {-999999990, "-999999.99"}, {api.MaxFix, "1000000"}, {-api.MaxFix, "-1000000"},
	} {
		if s, err := fix.Text(c.n); s != c.want || err != nil {
			t.Errorf("Text(%d): %q, %v, want %q", c.n, s, err, c.want)
		}
	}
	for _, n := range none {
		if s, err := fix.Text(n); !isBound(s, err) {
			t.Errorf("Text(%d): %q, %v", n, s, err)
		}
	}
}

func TestParse(t *testing.T) { // A2
	for _, c := range []struct {
		s    string
		want int
	}{
		{"0", 0}, {"-0", 0}, {"+0", 0}, {"-0.0004", 0}, {"7", 7000}, {"+7", 7000}, {"-7", -7000}, {"5.", 5000}, {"-5.", -5000},
		{".5", 500}, {"-.5", -500}, {"+.5", 500}, {"0.001", 1}, {".01", 10}, {"1.2", 1200}, {"1.23", 1230}, {"1.234", 1234},
		{"1.2349", 1234}, {"-1.2349", -1234}, {"-1.9999", -1999}, {"1.0009", 1000}, {"00012", 12000}, {"-0007.50", -7500},
		{"1000000", api.MaxFix}, {"-1000000", -api.MaxFix}, {"1000000.0009999", api.MaxFix}, {"999999.999", 999999999},
		{strings.Repeat("0", 5000) + "3.5", 3500}, {"3.5" + strings.Repeat("9", 5000), 3599}, {"12345.6789", 12345678},
	} {
		if n, err := fix.Parse(c.s); n != c.want || err != nil {
			t.Errorf("Parse(%.40q): %d, %v, want %d", c.s, n, err, c.want)
		}
	}
}

func TestParseWrong(t *testing.T) { // A2
	far := strings.Repeat("9", 400)
	for _, s := range []string{"", "+", "-", ".", "+.", "-.", "..", "1..2", "1.2.3", "--1", "+-1", "-+1", "1-", "1+", "1e3", "0x1", "1_0",
		" 1", "1 ", "1 2", "1,5", "a", "1a", "a1", "/1", "1/", "1:", ":", "1.-5", "1.+5", "1.2a", "1.234a", "1.2345 ", "٣", "1\x00", "\x00",
		"1\n", "½", "Inf", "NaN", far + "x", far + ".1.", "-" + far + "-"} {
		if n, err := fix.Parse(s); n != 0 || err != api.ErrText {
			t.Errorf("Parse(%.40q): %d, %v, want ErrText", s, n, err)
		}
	}
	for _, s := range []string{"1000000.001", "-1000000.001", "1000001", "-1000001", "0123456789.", "10000000", "9223372036854775808", "-9223372036854775808",
		"18446744073709551616", "18446744073709551.616", "-18446744073709551617.5", "4294967296", "4294967.296", far, "-" + far, "+" + far + "." + far} {
		if n, err := fix.Parse(s); !isBound(n, err) {
			t.Errorf("Parse(%.40q): %d, %v, want ErrBound", s, n, err)
		}
	}
}

func TestTextIsRead(t *testing.T) { // A1, A2
	d := die(1)
	for i := range 3000 {
		n := d.number()
		if i < len(edges) {
			n = edges[i]
		}
		s, err := fix.Text(n)
		if m, errParse := fix.Parse(s); err != nil || errParse != nil || m != n {
			t.Fatalf("%d is told as %q (%v), and read as %d (%v)", n, s, err, m, errParse)
		}
	}
}

func TestMul(t *testing.T) { // A3
	for _, c := range [][3]int{{0, 5, 0}, {1000, 1000, 1000}, {1500, 2500, 3750}, {1, 1, 0}, {-1, 1, -1}, {1, -1, -1}, {-1, -1, 0},
		{999, 1, 0}, {-999, 1, -1}, {-1000, 1, -1}, {-1001, 1, -2}, {333, 3, 0}, {-333, 3, -1}, {-1500, 3, -5}, {1000000, 1000000, api.MaxFix}} {
		if n, err := fix.Mul(c[0], c[1]); n != c[2] || err != nil {
			t.Errorf("Mul(%d, %d): %d, %v, want %d", c[0], c[1], n, err, c[2])
		}
	}
	held := func(a, b int) {
		t.Helper()
		n, err := fix.Mul(a, b)
		want, ok := exact(a, b, 0, 0, 0)
		if ok && (n != want || err != nil) || !ok && !isBound(n, err) {
			t.Errorf("Mul(%d, %d): %d, %v, want %d, %v", a, b, n, err, want, ok)
		}
		if back, errBack := fix.Mul(b, a); back != n || errBack != err {
			t.Errorf("Mul(%d, %d) hangs on the order", a, b)
		}
	}
	d := die(2)
	for _, a := range edges {
		for _, b := range edges {
			held(a, b)
		}
		held(a, d.number())
	}
	for range 3000 {
		held(d.number(), d.number())
	}
	for _, n := range none {
		for _, m := range []int{0, 1, 1000, n} {
			if x, err := fix.Mul(n, m); !isBound(x, err) {
				t.Errorf("Mul(%d, %d): %d, %v", n, m, x, err)
			}
			if x, err := fix.Mul(m, n); !isBound(x, err) {
				t.Errorf("Mul(%d, %d): %d, %v", m, n, x, err)
			}
		}
	}
}

func TestAdd(t *testing.T) { // A3
	held := func(a, b int) {
		t.Helper()
		n, err := fix.Add(a, b)
		want := a + b
		ok := -api.MaxFix <= want && want <= api.MaxFix
		if ok && (n != want || err != nil) || !ok && !isBound(n, err) {
			t.Errorf("Add(%d, %d): %d, %v", a, b, n, err)
		}
	}
	for _, a := range edges {
		for _, b := range edges {
			held(a, b)
		}
	}
	for _, n := range none {
		for _, m := range []int{0, 1, -1, -n, n} { // with -n the sum would be one
			if x, err := fix.Add(n, m); !isBound(x, err) {
				t.Errorf("Add(%d, %d): %d, %v", n, m, x, err)
			}
			if x, err := fix.Add(m, n); !isBound(x, err) {
				t.Errorf("Add(%d, %d): %d, %v", m, n, x, err)
			}
		}
	}
}

// exactPoint: what a matrix takes a point to; false: that is none.
func exactPoint(m api.Matrix, p api.Point) (api.Point, bool) {
	x, okX := exact(m.A, p.X, m.C, p.Y, m.E)
	y, okY := exact(m.B, p.X, m.D, p.Y, m.F)
	if !okX || !okY {
		return api.Point{}, false
	}
	return api.Point{X: x, Y: y}, true
}

func (d *die) matrix() api.Matrix {
	if d.n(2) == 0 {
		small := func() int { return d.n(6001) - 3000 }
		return api.Matrix{A: small(), B: small(), C: small(), D: small(), E: d.n(2000001) - 1000000, F: small()}
	}
	return api.Matrix{A: d.number(), B: d.number(), C: d.number(), D: d.number(), E: d.number(), F: d.number()}
}

func TestApply(t *testing.T) { // A4
	for _, c := range []struct {
		m    api.Matrix
		p    api.Point
		want api.Point
	}{
		{api.Matrix{A: 2000, B: 0, C: 0, D: 3000, E: 10, F: 20}, api.Point{X: 100, Y: 200}, api.Point{X: 210, Y: 620}},
		{api.Matrix{A: 0, B: 1000, C: -1000, D: 0}, api.Point{X: 3, Y: 5}, api.Point{X: -5, Y: 3}},
		{api.Matrix{A: 1, B: 2, C: 3, D: 4, E: 5, F: 6}, api.Point{X: 100000, Y: 10000}, api.Point{X: 135, Y: 246}},
		// Rounded together: each half a thousandth alone would be dropped.
		{api.Matrix{A: 500, B: -500, C: 500, D: -500}, api.Point{X: 1, Y: 1}, api.Point{X: 1, Y: -1}},
		{api.Matrix{A: -1, B: 1}, api.Point{X: 1}, api.Point{X: -1, Y: 0}},
		// On the way it may be beyond the bound, if it comes back.
		{api.Matrix{A: 2000, D: 1000, E: -api.MaxFix}, api.Point{X: 600000000}, api.Point{X: 200000000}},
		{api.Matrix{A: 1000, C: 1000, E: -api.MaxFix, D: 1000}, api.Point{X: api.MaxFix, Y: api.MaxFix}, api.Point{X: api.MaxFix, Y: api.MaxFix}},
		{api.Matrix{A: api.MaxFix, C: -api.MaxFix}, api.Point{X: api.MaxFix, Y: api.MaxFix}, api.Point{}},
	} {
		if p, err := fix.Apply(c.m, c.p); p != c.want || err != nil {
			t.Errorf("Apply(%v, %v): %v, %v, want %v", c.m, c.p, p, err, c.want)
		}
	}
	d := die(3)
	good := 0
	for range 5000 {
		m, p := d.matrix(), api.Point{X: d.number(), Y: d.number()}
		got, err := fix.Apply(m, p)
		want, ok := exactPoint(m, p)
		if ok && (got != want || err != nil) || !ok && !isBound(got, err) {
			t.Fatalf("Apply(%v, %v): %v, %v, want %v, %v", m, p, got, err, want, ok)
		}
		if ok {
			good++
		}
	}
	if good < 1000 {
		t.Errorf("just %d of the points are some", good)
	}
}

func TestApplyBound(t *testing.T) { // A4
	for _, n := range none {
		for i := range 8 {
			var m api.Matrix
			var p api.Point
			*[]*int{&m.A, &m.B, &m.C, &m.D, &m.E, &m.F, &p.X, &p.Y}[i] = n // all others 0: what it is would be a number
			if q, err := fix.Apply(m, p); !isBound(q, err) {
				t.Errorf("Apply(%v, %v): %v, %v", m, p, q, err)
			}
		}
	}
	for _, m := range []api.Matrix{{A: 1000, E: 1}, {B: 1000, F: 1}, {A: 1001}, {B: 1001}, {A: -1000, E: -1}, {B: -1000, F: -1}, {A: api.MaxFix}, {B: -api.MaxFix}} {
		if q, err := fix.Apply(m, api.Point{X: api.MaxFix}); !isBound(q, err) {
			t.Errorf("Apply(%v): %v, %v", m, q, err)
		}
		turned := api.Matrix{C: m.A, D: m.B, E: m.E, F: m.F}
		if q, err := fix.Apply(turned, api.Point{Y: api.MaxFix}); !isBound(q, err) {
			t.Errorf("Apply(%v): %v, %v", turned, q, err)
		}
	}
}

func TestApplyMovedFromBeyond(t *testing.T) { // A4
	over := api.MaxFix + 1
	p := api.Point{X: 5, Y: 5} // what it is would be a number
	for _, m := range []api.Matrix{{A: -1000, E: over}, {C: -1000, E: over}, {B: -1000, F: over}, {D: -1000, F: over}, {A: 1000, E: -over}, {D: 1000, F: -over}} {
		if q, err := fix.Apply(m, p); !isBound(q, err) {
			t.Errorf("Apply(%v, %v): %v, %v", m, p, q, err)
		}
		if c, err := fix.Concat(api.Matrix{E: p.X, F: p.Y}, m); !isBound(c, err) {
			t.Errorf("Concat(.., %v): %v, %v", m, c, err)
		}
	}
}

func TestUnit(t *testing.T) { // A4, W6
	u := fix.Unit()
	if (u != api.Matrix{A: 1000, D: 1000}) {
		t.Errorf("Unit: %v", u)
	}
	d := die(4)
	for range 500 {
		p := api.Point{X: d.number(), Y: d.number()}
		if q, err := fix.Apply(u, p); q != p || err != nil {
			t.Errorf("Unit takes %v to %v, %v", p, q, err)
		}
		m := d.matrix()
		ahead, err1 := fix.Concat(u, m)
		behind, err2 := fix.Concat(m, u)
		if ahead != m || behind != m || err1 != nil || err2 != nil {
			t.Errorf("Unit and %v: %v, %v; %v, %v", m, ahead, err1, behind, err2)
		}
	}
}

// exactConcat: first m, then n; false: a number of it is none.
func exactConcat(m, n api.Matrix) (api.Matrix, bool) {
	var c api.Matrix
	ok := true
	set := func(to *int, a, x, c, y, e int) {
		v, may := exact(a, x, c, y, e)
		*to, ok = v, ok && may
	}
	set(&c.A, n.A, m.A, n.C, m.B, 0)
	set(&c.B, n.B, m.A, n.D, m.B, 0)
	set(&c.C, n.A, m.C, n.C, m.D, 0)
	set(&c.D, n.B, m.C, n.D, m.D, 0)
	set(&c.E, n.A, m.E, n.C, m.F, n.E)
	set(&c.F, n.B, m.E, n.D, m.F, n.F)
	if !ok {
		return api.Matrix{}, false
	}
	return c, true
}

func TestConcat(t *testing.T) { // A4
	m, n := api.Matrix{A: 1000, B: 2000, C: 3000, D: 4000, E: 5000, F: 6000}, api.Matrix{A: 7000, B: 8000, C: 9000, D: 10000, E: 11000, F: 12000}
	want := api.Matrix{A: 25000, B: 28000, C: 57000, D: 64000, E: 100000, F: 112000}
	if c, err := fix.Concat(m, n); c != want || err != nil {
		t.Errorf("Concat(%v, %v): %v, %v, want %v", m, n, c, err, want)
	}
	// E and F too may be beyond the bound on the way.
	c, err := fix.Concat(api.Matrix{E: 600000000, F: 600000000}, api.Matrix{A: 2000, D: 2000, E: -api.MaxFix, F: -api.MaxFix})
	if (c != api.Matrix{E: 200000000, F: 200000000}) || err != nil {
		t.Errorf("Concat: %v, %v", c, err)
	}
	d := die(5)
	good := 0
	for range 5000 {
		m, n := d.matrix(), d.matrix()
		got, err := fix.Concat(m, n)
		want, ok := exactConcat(m, n)
		if ok && (got != want || err != nil) || !ok && !isBound(got, err) {
			t.Fatalf("Concat(%v, %v): %v, %v, want %v, %v", m, n, got, err, want, ok)
		}
		if ok {
			good++
		}
	}
	if good < 500 {
		t.Errorf("just %d of the matrices are some", good)
	}
}

func TestConcatBound(t *testing.T) { // A4
	six := func(m *api.Matrix) []*int { return []*int{&m.A, &m.B, &m.C, &m.D, &m.E, &m.F} }
	for i := range 6 {
		for _, x := range none {
			var m, zero api.Matrix
			*six(&m)[i] = x
			if c, err := fix.Concat(m, zero); !isBound(c, err) {
				t.Errorf("Concat(%v, zero): %v, %v", m, c, err)
			}
			if c, err := fix.Concat(zero, m); !isBound(c, err) {
				t.Errorf("Concat(zero, %v): %v, %v", m, c, err)
			}
		}
		var m api.Matrix // just one number of what it is beyond the bound
		*six(&m)[i] = api.MaxFix
		if c, err := fix.Concat(m, api.Matrix{A: 1001, D: 1001}); !isBound(c, err) {
			t.Errorf("Concat(%v, ..): %v, %v", m, c, err)
		}
	}
}

func TestAround(t *testing.T) { // A5
	big := api.MaxFix
	for _, c := range []struct {
		l    []api.Point
		want api.Box
	}{
		{nil, api.Box{}},
		{[]api.Point{}, api.Box{}},
		{[]api.Point{{X: 3, Y: -4}}, api.Box{X0: 3, Y0: -4, X1: 3, Y1: -4}},
		{[]api.Point{{X: 5, Y: 7}, {X: 6, Y: 9}}, api.Box{X0: 5, Y0: 7, X1: 6, Y1: 9}},
		{[]api.Point{{X: 6, Y: 9}, {X: 5, Y: 7}}, api.Box{X0: 5, Y0: 7, X1: 6, Y1: 9}},
		{[]api.Point{{X: 1, Y: 9}, {X: 8, Y: 2}}, api.Box{X0: 1, Y0: 2, X1: 8, Y1: 9}},
		{[]api.Point{{X: -1, Y: -9}, {X: -8, Y: -2}, {X: -3, Y: -4}}, api.Box{X0: -8, Y0: -9, X1: -1, Y1: -2}},
		{[]api.Point{{X: 2, Y: 2}, {X: 1, Y: 2}, {X: 3, Y: 2}, {X: 2, Y: 1}, {X: 2, Y: 3}}, api.Box{X0: 1, Y0: 1, X1: 3, Y1: 3}},
		{[]api.Point{{X: big, Y: -big}, {X: -big, Y: big}}, api.Box{X0: -big, Y0: -big, X1: big, Y1: big}},
	} {
		was := slices.Clone(c.l)
		if b := fix.Around(c.l); b != c.want {
			t.Errorf("Around(%v): %v, want %v", c.l, b, c.want)
		}
		if !slices.Equal(was, c.l) {
			t.Errorf("Around wrote into %v", was)
		}
	}
	behind := []api.Point{{X: 1, Y: 1}, {X: 99, Y: -99}}
	if b := fix.Around(behind[:1]); (b != api.Box{X0: 1, Y0: 1, X1: 1, Y1: 1}) {
		t.Errorf("Around looked behind its list: %v", b)
	}
	fix.Around([]api.Point{{X: math.MinInt, Y: math.MaxInt}, {X: math.MaxInt, Y: math.MinInt}}) // nothing is said, but that it ends
}
