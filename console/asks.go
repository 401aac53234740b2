package console

import (
	"strconv"
	"strings"

	"foliowright/api"
	"foliowright/file"
	"foliowright/filter"
	"foliowright/layout"
	"foliowright/pages"
	"foliowright/parse"
	"foliowright/press"
	"foliowright/search"
	"foliowright/value"
)

// build a file of the spec, and read its pages: how many bytes it has.
func (s *session) build() (string, error) {
	text, err := press.Build(s.spec)
	if err != nil {
		return "", err
	}
	l, err := pages.Read(text)
	if err != nil {
		return "", err
	}
	f, err := file.Read(text)
	if err != nil {
		return "", err
	}
	s.file, s.pages = f, l
	return strconv.Itoa(len(text)), nil
}

// glyphs of the page that a word names.
func (s *session) glyphs(word string) ([]api.Glyph, error) {
	n, is := number(word)
	if !is || n >= len(s.pages) {
		return nil, api.ErrNone
	}
	return s.pages[n].Glyphs, nil
}

// text of a page, told as one line. That there is no such page is told ahead of what is wrong behind its number.
func (s *session) text(rest string) (string, error) {
	word, _, more := strings.Cut(rest, " ")
	l, err := s.glyphs(word)
	if err != nil {
		return "", err
	}
	if more {
		return "", api.ErrText
	}
	return strings.ReplaceAll(string(layout.Of(l).Signs), "\n", "/"), nil
}

// find where something stands on a page. Where nothing is behind the page's number, nothing is looked for.
func (s *session) find(rest string, alike bool) (string, error) {
	word, pattern, _ := strings.Cut(rest, " ")
	l, err := s.glyphs(word)
	if err != nil {
		return "", err
	}
	hits, err := search.Page(l, pattern, alike)
	if err != nil {
		return "", err
	}
	return hitsText(hits), nil
}

// object of the file. Ahead of any file there is none that such a line could be about: then it is none of the lines.
func (s *session) object(rest string) (string, error) {
	n, is := number(rest)
	if !is || s.file == nil {
		return "", api.ErrText
	}
	o, err := s.file.Get(n)
	if err != nil {
		return "", err
	}
	text, err := value.Text(o.V)
	if err != nil {
		return "", err
	}
	if o.Stream {
		text += " stream " + strconv.Itoa(len(o.Data))
	}
	return text, nil
}

// read a value: where it ends, and its text.
func read(rest string) (string, error) {
	v, end, err := parse.Value(rest, 0)
	if err != nil {
		return "", err
	}
	text, err := value.Text(v)
	if err != nil {
		return "", err
	}
	return strconv.Itoa(end) + " " + text, nil
}

// pack a text by a filter: what that makes of it, as a string.
func pack(rest string) (string, error) {
	name, text, more := strings.Cut(rest, " ")
	if !more || name == "" {
		return "", api.ErrText
	}
	made, err := filter.Make([]string{name}, text)
	if err != nil {
		return "", err
	}
	if len(made) > api.MaxBytes {
		return "", nil
	}
	return value.Text(api.Value{Kind: api.Str, S: made})
}
