package file

import (
	"slices"
	"strings"

	"foliowright/api"
	"foliowright/parse"
	"foliowright/value"
)

// Words of a file, and its beginning.
const (
	head      = "%PDF-"
	tableWord = "xref"
	lastWord  = "trailer"
	startWord = "startxref"
)

// Read a file: its tables, the last one first.
func Read(s string) (*File, error) {
	if len(s) > api.MaxFile {
		return nil, api.ErrMany
	}
	start := strings.LastIndex(s, startWord)
	if !strings.HasPrefix(s, head) || start < 0 {
		return nil, api.ErrText
	}
	r := reader{s, start + len(startWord)}
	at, err := number(r.word())
	if err != nil {
		return nil, err
	}
	f := &File{s: s, where: map[int]int{}, table: at}
	if err := f.readTables(); err != nil {
		return nil, err
	}
	return f, nil
}

// readTables: the last one, and those to which Prev leads from it on.
func (f *File) readTables() error {
	var read []int
	for at := f.table; ; {
		last, err := f.readTable(at)
		if err != nil {
			return err
		}
		if read = append(read, at); len(read) == 1 {
			f.last = last
		}
		prev, more := value.Get(last, "Prev")
		if !more {
			return nil
		}
		at, more = whole(prev)
		switch {
		case !more:
			return api.ErrKind
		case slices.Contains(read, at):
			return api.ErrCycle
		case len(read) == api.MaxChain:
			return api.ErrMany
		}
	}
}

// readTable at a place: where it says that objects stand is kept; its last words.
func (f *File) readTable(at int) (api.Value, error) {
	if parse.Word(f.s, at) != tableWord {
		return api.Value{}, api.ErrText
	}
	r := reader{f.s, at + len(tableWord)}
	for w := r.word(); w != lastWord; w = r.word() {
		if err := f.readSpan(&r, w); err != nil {
			return api.Value{}, err
		}
	}
	v, _, err := parse.Value(f.s, r.at)
	if err != nil {
		return api.Value{}, err
	}
	if v.Kind != api.Dict {
		return api.Value{}, api.ErrKind
	}
	return v, nil
}

// readSpan of numbers, whose first one a word is.
func (f *File) readSpan(r *reader, w string) error {
	first, err := number(w)
	if err != nil {
		return err
	}
	many, err := number(r.word())
	if err != nil {
		return err
	}
	for i := range many {
		if err := f.readEntry(r, first+i); err != nil {
			return err
		}
	}
	return nil
}

// readEntry of a number: a table that is read later doesn't change what it says.
func (f *File) readEntry(r *reader, n int) error {
	at, err := number(r.word())
	if err != nil {
		return err
	}
	if _, err := number(r.word()); err != nil {
		return err
	}
	switch r.word() {
	case "n":
	case "f":
		at = -1
	default:
		return api.ErrText
	}
	if _, told := f.where[n]; !told && mayBe(n) {
		f.where[n] = at
	}
	return nil
}

// mayBe: may an object have that number?
func mayBe(n int) bool {
	return 1 <= n && n <= api.MaxObject
}
