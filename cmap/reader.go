package cmap

import (
	"cmp"
	"slices"
	"strings"

	"foliowright/api"
	"foliowright/parse"
)

// Words between which a program tells something.
const (
	beginSpace = "begincodespacerange"
	endSpace   = "endcodespacerange"
	beginChar  = "beginbfchar"
	endChar    = "endbfchar"
	beginRange = "beginbfrange"
	endRange   = "endbfrange"
)

// reader of a program: how far it has come, and what it was told by then.
type reader struct {
	s     string
	at    int
	bytes int // of a code
	spans []api.Span
}

// Parse a program: its spans, and whether codes have two bytes.
func Parse(s string) ([]api.Span, bool, error) {
	if len(s) > api.MaxData {
		return nil, false, api.ErrMany
	}
	r := reader{s: s, bytes: 1}
	err := r.program()
	wide := r.bytes == 2
	if err == nil {
		err = Check(r.spans, wide)
	}
	if err != nil {
		return nil, false, err
	}
	return r.spans, wide, nil
}

// program: each part of it that tells something, from its first token up to its end.
func (r *reader) program() error {
	for {
		t, err := r.token()
		if t == "" || err != nil {
			return err
		}
		switch t {
		case beginSpace:
			err = r.upTo(endSpace, r.space)
		case beginChar:
			err = r.upTo(endChar, r.char)
		case beginRange:
			err = r.upTo(endRange, r.codes)
		}
		if err != nil {
			return err
		}
	}
}

// upTo an end, by what reads one item from its first token on. Just here nothing more is ErrEnd: within an item it is a token that is no string.
func (r *reader) upTo(end string, item func(first string) error) error {
	for {
		t, err := r.token()
		if err != nil {
			return err
		}
		switch t {
		case "":
			return api.ErrEnd
		case end:
			return nil
		}
		if err := item(t); err != nil {
			return err
		}
	}
}

// token that stands next: it is taken; an empty one: there is nothing more.
func (r *reader) token() (string, error) {
	r.at = parse.Skip(r.s, r.at)
	rest := r.s[r.at:]
	if rest == "" {
		return "", nil
	}
	n := max(len(parse.Word(rest, 0)), 1)
	if rest[0] == '<' {
		if n = 1 + strings.IndexByte(rest, '>'); n == 0 {
			return "", api.ErrEnd
		}
	}
	r.at += n
	return rest[:n], nil
}

// space: a pair of strings, which tells how many bytes codes have.
func (r *reader) space(first string) error {
	from, err := stringBytes(first, nil)
	if err != nil {
		return err
	}
	if len(from) != 1 && len(from) != 2 {
		return api.ErrShape
	}
	to, err := stringBytes(r.token())
	if err != nil {
		return err
	}
	// A pair tells one number: both have to agree on it.
	if len(to) != len(from) {
		return api.ErrShape
	}
	r.bytes = len(to)
	return nil
}

// char: a code, and its text.
func (r *reader) char(first string) error {
	code, err := r.code(first, nil)
	if err != nil {
		return err
	}
	s, err := text(r.token())
	if err != nil {
		return err
	}
	return r.add(code, code, s)
}

// codes: two of them, and what those from the one to the other are.
func (r *reader) codes(first string) error {
	from, err := r.code(first, nil)
	if err != nil {
		return err
	}
	to, err := r.code(r.token())
	if err != nil {
		return err
	}
	t, err := r.token()
	if t == "[" {
		return r.list(from, to)
	}
	s, err := text(t, err)
	if err != nil {
		return err
	}
	return r.add(from, to, s)
}

// list behind '[': of each code from the one to the other a text, then ']'.
func (r *reader) list(from, to int) error {
	code := from
	one := func(t string) error {
		s, err := text(t, nil)
		if err != nil {
			return err
		}
		if code > to {
			return api.ErrShape
		}
		code++
		return r.add(code-1, code-1, s)
	}
	if err := r.upTo("]", one); err != nil {
		return err
	}
	if code <= to {
		return api.ErrShape
	}
	return nil
}

// add a span; ErrMany: there is no more room for it.
func (r *reader) add(from, to int, s string) error {
	byFrom := func(x api.Span, from int) int { return cmp.Compare(x.From, from) }
	// Where it is put, those that begin alike stand behind it.
	at, _ := slices.BinarySearchFunc(r.spans, from, byFrom)
	r.spans = slices.Insert(r.spans, at, api.Span{From: from, To: to, Text: s})
	if len(r.spans) > api.MaxSpans {
		return api.ErrMany
	}
	return nil
}

// code that a token is, of as many bytes as codes have by now; what is wrong with the token itself is told ahead.
func (r *reader) code(t string, err error) (int, error) {
	b, err := stringBytes(t, err)
	if err != nil {
		return 0, err
	}
	if len(b) != r.bytes {
		return 0, api.ErrShape
	}
	n := 0
	for _, c := range b {
		n = n<<8 | int(c)
	}
	return n, nil
}

// text that a token is, likewise.
func text(t string, err error) (string, error) {
	b, err := stringBytes(t, err)
	if err != nil {
		return "", err
	}
	return signs(b)
}

// stringBytes: the bytes whose digits, two each, a token has in '<' and '>', likewise; ErrText: it is another one.
func stringBytes(t string, err error) ([]byte, error) {
	if err != nil {
		return nil, err
	}
	digits, is := strings.CutPrefix(t, "<")
	digits = strings.TrimSuffix(digits, ">")
	if !is || len(digits)%2 != 0 {
		return nil, api.ErrText
	}
	var b []byte
	for ; digits != ""; digits = digits[2:] {
		high, low := parse.Hex(digits[0]), parse.Hex(digits[1])
		if high < 0 || low < 0 {
			return nil, api.ErrText
		}
		b = append(b, byte(high<<4|low))
	}
	return b, nil
}
