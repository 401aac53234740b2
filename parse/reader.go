package parse

import (
	"cmp"
	"slices"
	"strconv"
	"strings"

	"foliowright/api"
	"foliowright/fix"
	"foliowright/value"
)

// reader of a text: how far it has come.
type reader struct {
	s  string
	at int
}

// ahead: does this stand next?
func (r *reader) ahead(s string) bool {
	return strings.HasPrefix(r.s[r.at:], s)
}

// take the next byte; ErrEnd: there is none.
func (r *reader) take() (byte, error) {
	if r.at == len(r.s) {
		return 0, api.ErrEnd
	}
	c := r.s[r.at]
	r.at++
	return c, nil
}

// skip what tells nothing, up to something; ErrEnd: there is nothing more.
func (r *reader) skip() error {
	r.at = Skip(r.s, r.at)
	if r.at == len(r.s) {
		return api.ErrEnd
	}
	return nil
}

// word that stands next: it is taken.
func (r *reader) word() string {
	w := Word(r.s, r.at)
	r.at += len(w)
	return w
}

// value that stands next, so deep in others.
func (r *reader) value(deep int) (api.Value, error) {
	if err := r.skip(); err != nil {
		return api.Value{}, err
	}
	if deep > api.MaxDeep {
		return api.Value{}, api.ErrMany
	}
	switch {
	case r.ahead("/"):
		s, err := r.name()
		return api.Value{Kind: api.Name, S: s}, err
	case r.ahead("("):
		return text(r.plain())
	case r.ahead("<<"):
		return r.dict(deep)
	case r.ahead("<"):
		return text(r.hex())
	case r.ahead("["):
		return r.list(deep)
	case sign(r.s[r.at]):
		return api.Value{}, api.ErrText
	}
	return r.other()
}

// text: the string of these bytes. Just here it is known how many there are, since its end was reached.
func text(b []byte, err error) (api.Value, error) {
	if err != nil {
		return api.Value{}, err
	}
	if len(b) > api.MaxBytes {
		return api.Value{}, api.ErrMany
	}
	return api.Value{Kind: api.Str, S: string(b)}, nil
}

// name behind '/', as the bytes that it is.
func (r *reader) name() (string, error) {
	if !r.ahead("/") {
		return "", api.ErrText
	}
	r.at++
	w := r.word()
	var b []byte
	for len(w) > 0 {
		c, n := w[0], 1
		if c == '#' {
			var ok bool
			if c, ok = pair(w[1:]); !ok {
				return "", api.ErrText
			}
			n = 3
		}
		b, w = append(b, c), w[n:]
	}
	if s := string(b); value.NameMay(s) {
		return s, nil
	}
	return "", api.ErrText
}

// pair: the byte that the first two digits of s are; false: there are none.
func pair(s string) (byte, bool) {
	n := 0
	for i := range 2 {
		if i == len(s) || Hex(s[i]) < 0 {
			return 0, false
		}
		n = 16*n + Hex(s[i])
	}
	return byte(n), true
}

// plain: the bytes from '(' up to the ')' that belongs to it.
func (r *reader) plain() ([]byte, error) {
	var b []byte
	open := 1
	r.at++
	for {
		c, err := r.take()
		if err != nil {
			return nil, err
		}
		switch c {
		case '(':
			open++
		case ')':
			open--
		case '\\':
			if b, err = r.escape(b); err != nil {
				return nil, err
			}
			continue
		}
		if open == 0 {
			return b, nil
		}
		b = append(b, c)
	}
}

// escape: b, and what the bytes behind '\' stand for.
func (r *reader) escape(b []byte) ([]byte, error) {
	if n := r.octal(); n >= 0 {
		return append(b, byte(n)), nil
	}
	c, err := r.take()
	if err != nil {
		return nil, err
	}
	switch c {
	case 'n':
		c = '\n'
	case 'r':
		c = '\r'
	case 't':
		c = '\t'
	case 'b':
		c = '\b'
	case 'f':
		c = '\f'
	case '\n':
		return b, nil
	case '\r':
		if r.ahead("\n") {
			r.at++
		}
		return b, nil
	}
	return append(b, c), nil
}

// octal: the number of up to three digits to the base 8; below 0: there is none.
func (r *reader) octal() int {
	n := -1
	for range 3 {
		if r.at == len(r.s) || r.s[r.at] < '0' || r.s[r.at] > '7' {
			break
		}
		n = 8*max(n, 0) + int(r.s[r.at]-'0')
		r.at++
	}
	return n
}

// hex: the bytes from '<' up to '>', two digits each.
func (r *reader) hex() ([]byte, error) {
	var b []byte
	half := false
	r.at++
	for {
		c, err := r.take()
		if err != nil {
			return nil, err
		}
		d := Hex(c)
		switch {
		case c == '>':
			return b, nil
		case Blank(c):
		case d < 0:
			return nil, api.ErrText
		case half:
			b[len(b)-1] |= byte(d)
			half = false
		default:
			b = append(b, byte(16*d))
			half = true
		}
	}
}

// list from '[' up to ']'.
func (r *reader) list(deep int) (api.Value, error) {
	v := api.Value{Kind: api.List}
	r.at++
	for {
		if end, err := r.ends("]"); end || err != nil {
			return v, err
		}
		x, err := r.value(deep + 1)
		if err != nil {
			return api.Value{}, err
		}
		// Just a value that was read makes the list greater: what is wrong in it is told ahead of too many.
		if v.L = append(v.L, x); len(v.L) > api.MaxParts {
			return api.Value{}, api.ErrMany
		}
	}
}

// ends: is this the end of a list or dictionary? If so, it is taken; ErrEnd: there is nothing more.
func (r *reader) ends(with string) (bool, error) {
	if err := r.skip(); err != nil {
		return false, err
	}
	if !r.ahead(with) {
		return false, nil
	}
	r.at += len(with)
	return true, nil
}

// dict from '<<' up to '>>'.
func (r *reader) dict(deep int) (api.Value, error) {
	v := api.Value{Kind: api.Dict}
	r.at += len("<<")
	for {
		if end, err := r.ends(">>"); end || err != nil {
			return v, err
		}
		f, err := r.field(deep + 1)
		if err != nil {
			return api.Value{}, err
		}
		at, twice := slices.BinarySearchFunc(v.F, f, byName)
		if twice {
			return api.Value{}, api.ErrShape
		}
		// A name that is there already makes the dictionary no greater, so that too many is told behind it.
		if v.F = slices.Insert(v.F, at, f); len(v.F) > api.MaxParts {
			return api.Value{}, api.ErrMany
		}
	}
}

// field of a dictionary: its name, and its value, so deep.
func (r *reader) field(deep int) (api.Field, error) {
	n, err := r.name()
	if err != nil {
		return api.Field{}, err
	}
	v, err := r.value(deep)
	return api.Field{Name: n, V: v}, err
}

func byName(f, g api.Field) int {
	return cmp.Compare(f.Name, g.Name)
}

// other: what a word says.
func (r *reader) other() (api.Value, error) {
	w := r.word()
	switch w {
	case "null":
		return api.Value{}, nil
	case "true":
		return api.Value{Kind: api.Flag, N: 1}, nil
	case "false":
		return api.Value{Kind: api.Flag}, nil
	}
	if n := object(w); n > 0 && r.refers() {
		return api.Value{Kind: api.Ref, N: n}, nil
	}
	n, err := fix.Parse(w)
	return api.Value{Kind: api.Num, N: n}, err
}

// object: the number of one, if this is how it is told; else 0.
func object(w string) int {
	n, err := strconv.Atoi(w)
	if err != nil || n < 1 || n > api.MaxObject || strconv.Itoa(n) != w {
		return 0
	}
	return n
}

// refers: does the rest of a reference stand behind its number? If so, it is taken; if not, what stands there is another value's.
func (r *reader) refers() bool {
	rest := *r
	for _, w := range []string{"0", "R"} {
		rest.at = Skip(rest.s, rest.at)
		if rest.word() != w {
			return false
		}
	}
	*r = rest
	return true
}
