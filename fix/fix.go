// Package fix: numbers of thousandths, and what moves points.
package fix

import (
	"cmp"
	"slices"
	"strconv"
	"strings"

	"foliowright/api"
)

// Check a number.
func Check(n int) error {
	if n < -api.MaxFix || n > api.MaxFix {
		return api.ErrBound
	}
	return nil
}

// Text of a number: no noughts behind a point.
func Text(n int) (string, error) {
	if err := Check(n); err != nil {
		return "", err
	}
	sign := ""
	if n < 0 {
		sign, n = "-", -n
	}
	return sign + strconv.Itoa(n/api.Whole) + fraction(n%api.Whole), nil
}

// fraction: '.' and the digits of thousandths; nothing, if there are none.
func fraction(n int) string {
	if n == 0 {
		return ""
	}
	b := []byte{'.'}
	for range places {
		// What is left of n is told by the digits that follow; noughts behind it would tell nothing.
		if n == 0 {
			break
		}
		n *= 10
		b = append(b, byte('0'+n/api.Whole))
		n %= api.Whole
	}
	return string(b)
}

// places: how many digits behind a point count.
const places = 3

// Parse a number: what is beyond thousandths is dropped.
func Parse(s string) (int, error) {
	below := strings.HasPrefix(s, "-")
	if below || strings.HasPrefix(s, "+") {
		s = s[1:]
	}
	whole, part, _ := strings.Cut(s, ".")
	if len(whole)+len(part) == 0 || !allDigits(whole) || !allDigits(part) {
		return 0, api.ErrText
	}
	part = part[:min(len(part), places)]
	n := withDigits(withDigits(0, whole), part)
	for range places - len(part) {
		n = withDigits(n, "0")
	}
	if below {
		n = -n
	}
	return number(n)
}

// allDigits: is every byte a digit?
func allDigits(s string) bool {
	for i := range len(s) {
		if s[i] < '0' || s[i] > '9' {
			return false
		}
	}
	return true
}

// withDigits: n with digits written behind it. Once it is beyond what a number may be, no digit brings it back: it stays, so that it can't wrap round.
func withDigits(n int64, digits string) int64 {
	for i := range len(digits) {
		if n > api.MaxFix {
			break
		}
		n = 10*n + int64(digits[i]-'0')
	}
	return n
}

// Mul of two numbers, rounded down.
func Mul(a, b int) (int, error) {
	if someNone(a, b) {
		return 0, api.ErrBound
	}
	return together(a, b, 0, 0, 0)
}

// Add two numbers.
func Add(a, b int) (int, error) {
	if someNone(a, b) {
		return 0, api.ErrBound
	}
	return number(int64(a) + int64(b))
}

// Unit: the matrix that moves nothing.
func Unit() api.Matrix {
	return api.Matrix{A: api.Whole, D: api.Whole}
}

// Apply a matrix to a point.
func Apply(m api.Matrix, p api.Point) (api.Point, error) {
	if someNone(m.A, m.B, m.C, m.D, m.E, m.F, p.X, p.Y) {
		return api.Point{}, api.ErrBound
	}
	x, errX := together(m.A, p.X, m.C, p.Y, m.E)
	y, errY := together(m.B, p.X, m.D, p.Y, m.F)
	if errX != nil || errY != nil {
		return api.Point{}, api.ErrBound
	}
	return api.Point{X: x, Y: y}, nil
}

// Concat: first the one, then the other one.
func Concat(m, n api.Matrix) (api.Matrix, error) {
	still := n
	still.E, still.F = 0, 0
	ab, errAB := Apply(still, api.Point{X: m.A, Y: m.B})
	cd, errCD := Apply(still, api.Point{X: m.C, Y: m.D})
	ef, errEF := Apply(n, api.Point{X: m.E, Y: m.F})
	if errAB != nil || errCD != nil || errEF != nil {
		return api.Matrix{}, api.ErrBound
	}
	return api.Matrix{A: ab.X, B: ab.Y, C: cd.X, D: cd.Y, E: ef.X, F: ef.Y}, nil
}

// Around: the least box in which points lie.
func Around(l []api.Point) api.Box {
	if len(l) == 0 {
		return api.Box{}
	}
	byX := func(p, q api.Point) int { return cmp.Compare(p.X, q.X) }
	byY := func(p, q api.Point) int { return cmp.Compare(p.Y, q.Y) }
	return api.Box{
		X0: slices.MinFunc(l, byX).X,
		Y0: slices.MinFunc(l, byY).Y,
		X1: slices.MaxFunc(l, byX).X,
		Y1: slices.MaxFunc(l, byY).Y,
	}
}

// together: a times x and c times y, rounded down as one, and e. Just what comes out has to be a number, not what is met on the way.
func together(a, x, c, y, e int) (int, error) {
	sum := int64(a)*int64(x) + int64(c)*int64(y)
	return number(down(sum) + int64(e))
}

// down: thousandths of thousandths as thousandths; Go's own division rounds towards 0.
func down(n int64) int64 {
	q := n / api.Whole
	if n%api.Whole < 0 {
		q--
	}
	return q
}

// number: n, if it is one.
func number(n int64) (int, error) {
	if n < -api.MaxFix || n > api.MaxFix {
		return 0, api.ErrBound
	}
	return int(n), nil
}

// someNone: is one of these no number?
func someNone(l ...int) bool {
	return slices.ContainsFunc(l, func(n int) bool { return Check(n) != nil })
}
