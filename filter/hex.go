package filter

import (
	"foliowright/api"
	"foliowright/parse"
)

// makeHex: two digits to the base 16 a byte.
func makeHex(s string) []byte {
	const signs = "0123456789ABCDEF"
	var b []byte
	for i := range len(s) {
		b = append(b, signs[s[i]>>4], signs[s[i]&15])
	}
	return append(b, '>')
}

// takeHex: the bytes whose digits stand ahead of '>'.
func takeHex(s string) ([]byte, error) {
	var b []byte
	half := false
	for i := range len(s) {
		c := s[i]
		d := parse.Hex(c)
		switch {
		case c == '>':
			return b, nil
		case parse.Blank(c):
		case d < 0:
			return nil, api.ErrText
		case half:
			b[len(b)-1] |= byte(d)
			half = false
		default:
			// The other half stays 0, if no digit follows.
			b = append(b, byte(d<<4))
			half = true
		}
	}
	return nil, api.ErrEnd
}
