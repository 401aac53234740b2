package file

import (
	"strconv"
	"strings"

	"foliowright/api"
	"foliowright/parse"
	"foliowright/value"
)

const mostDigits = 10 // of a number

// reader of a file: how far it has come.
type reader struct {
	s  string
	at int
}

// word that stands next, behind what tells nothing: it is taken.
func (r *reader) word() string {
	r.at = parse.Skip(r.s, r.at)
	w := parse.Word(r.s, r.at)
	r.at += len(w)
	return w
}

// data behind the word stream: as many bytes as the stream's value says.
func (r *reader) data(v api.Value) (string, error) {
	length, _ := value.Get(v, "Length")
	n, ok := whole(length)
	if !ok {
		return "", api.ErrKind
	}
	rest, ok := strings.CutPrefix(strings.TrimPrefix(r.s[r.at:], "\r"), "\n")
	if !ok {
		return "", api.ErrText
	}
	if n > len(rest) {
		return "", api.ErrEnd
	}
	if n > api.MaxData {
		return "", api.ErrMany
	}
	behind := reader{rest, n}
	if behind.word() != "endstream" {
		return "", api.ErrText
	}
	return rest[:n], nil
}

// number that a word is; ErrText: it is none.
func number(w string) (int, error) {
	if len(w) > mostDigits || w == "" || strings.Trim(w, "0123456789") != "" {
		return 0, api.ErrText
	}
	n, _ := strconv.Atoi(w)
	return n, nil
}

// whole number from 0 on that a value is; false: it is none.
func whole(v api.Value) (int, bool) {
	if v.Kind != api.Num || v.N < 0 || v.N%api.Whole != 0 {
		return 0, false
	}
	return v.N / api.Whole, true
}
