package cmap

import (
	"unicode/utf8"

	"foliowright/api"
)

// Numbers that are no signs: two of them, a high one and a low one, are the units of a sign that one unit has no room for.
const (
	surrogates = 0xD800 // the first high one
	lows       = 0xDC00 // the first low one
	behind     = 0xE000 // what stands behind both
	beyond     = 1 << 16
	half       = 10 // bits that each of them tells
)

// units of UTF-16 that valid text is, the higher byte first.
func units(s string) []byte {
	var b []byte
	for _, r := range s {
		if r >= beyond {
			r -= beyond
			b = addUnit(b, surrogates+r>>half)
			r = lows + r&(1<<half-1)
		}
		b = addUnit(b, r)
	}
	return b
}

func addUnit(b []byte, r rune) []byte {
	return append(b, byte(r>>8), byte(r))
}

// signs: the text that units of UTF-16 are; ErrText: they are none.
func signs(b []byte) (string, error) {
	var s []byte
	for len(b) > 0 {
		r, n := sign(b)
		if n == 0 {
			return "", api.ErrText
		}
		s = utf8.AppendRune(s, r)
		b = b[n:]
	}
	return string(s), nil
}

// sign with which units begin, and how many bytes it takes; 0: there is none.
func sign(b []byte) (rune, int) {
	r, ok := unit(b)
	if !ok || lows <= r && r < behind {
		return 0, 0
	}
	if r < surrogates || r >= behind {
		return r, 2
	}
	low, ok := unit(b[2:])
	if !ok || low < lows || low >= behind {
		return 0, 0
	}
	return beyond + (r-surrogates)<<half + low - lows, 4
}

// unit with which bytes begin; false: there is none.
func unit(b []byte) (rune, bool) {
	if len(b) < 2 {
		return 0, false
	}
	return rune(b[0])<<8 | rune(b[1]), true
}
