package filter

import (
	"strings"

	"foliowright/api"
	"foliowright/parse"
)

// Digits to the base 85: five of them have room for four bytes, and for a little more.
const (
	base  = 85
	zero  = '!'
	last  = 'u'
	zeros = 'z' // four bytes that are 0
	wide  = 4   // bytes of a group
)

// group of digits, the highest first.
type group [wide + 1]byte

// makeFive: five digits of each four bytes.
func makeFive(s string) []byte {
	var b []byte
	for len(s) >= wide {
		if n := number(s[:wide]); n == 0 {
			b = append(b, zeros)
		} else {
			b = write(b, digits(n), wide+1)
		}
		s = s[wide:]
	}
	if s != "" {
		b = write(b, digits(number(s)), len(s)+1)
	}
	return append(b, "~>"...)
}

// number: up to four bytes, the highest first, with noughts behind.
func number(s string) uint64 {
	n := uint64(0)
	for i := range wide {
		n <<= 8
		if i < len(s) {
			n |= uint64(s[i])
		}
	}
	return n
}

// digits of a number.
func digits(n uint64) group {
	var g group
	for i := range len(g) {
		g[len(g)-1-i] = byte(n % base)
		n /= base
	}
	return g
}

// write: b, and so many digits of a group, as they are told.
func write(b []byte, g group, many int) []byte {
	for i := range many {
		b = append(b, zero+g[i])
	}
	return b
}

// takeFive: the bytes whose digits stand ahead of '~>'.
func takeFive(s string) ([]byte, error) {
	var b []byte
	var g group
	have := 0
	for i := range len(s) {
		c := s[i]
		switch {
		case parse.Blank(c):
		case c == '~' && strings.HasPrefix(s[i+1:], ">"):
			return rest(b, g, have)
		case c == zeros && have == 0:
			b = append(b, 0, 0, 0, 0)
		case c < zero || c > last:
			// A '~' alone too, even at the very end: it is no digit.
			return nil, api.ErrText
		default:
			g[have] = c - zero
			have++
		}
		if have == len(g) {
			var err error
			if b, err = read(b, g, wide); err != nil {
				return nil, err
			}
			have = 0
		}
	}
	return nil, api.ErrEnd
}

// rest: b, and the bytes of a last group that has so many digits.
func rest(b []byte, g group, have int) ([]byte, error) {
	if have == 0 {
		return b, nil
	}
	if have == 1 {
		return nil, api.ErrText
	}
	for i := have; i < len(g); i++ {
		g[i] = last - zero
	}
	return read(b, g, have-1)
}

// read: b, and the first bytes of a group, so many; ErrText: four bytes have no room for it.
func read(b []byte, g group, many int) ([]byte, error) {
	n := uint64(0)
	for i := range len(g) {
		n = n*base + uint64(g[i])
	}
	if n >= 1<<(8*wide) {
		return nil, api.ErrText
	}
	for i := range many {
		b = append(b, byte(n>>(8*(wide-1-i))))
	}
	return b, nil
}
