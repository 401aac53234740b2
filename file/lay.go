package file

import (
	"strconv"
	"strings"

	"foliowright/api"
	"foliowright/value"
)

// Build a file of objects, one of which is its root.
func Build(objs []api.Object, root int) (string, error) {
	if !mayBe(root) {
		return "", api.ErrBound
	}
	last := value.Set(api.Value{Kind: api.Dict}, "Root", api.Value{Kind: api.Ref, N: root})
	return lay(head+"1.4\n", objs, last)
}

// Update a file: objects in the place of others, or more of them.
func Update(s string, objs []api.Object) (string, error) {
	f, err := Read(s)
	if err != nil {
		return "", err
	}
	return lay(s, objs, value.Set(f.last, "Prev", wholeValue(f.table)))
}

// wholeValue: the value that a whole number is.
func wholeValue(n int) api.Value {
	return api.Value{Kind: api.Num, N: n * api.Whole}
}

// lay objects behind a text, and a table of them, with its last words.
func lay(s string, objs []api.Object, last api.Value) (string, error) {
	if len(objs) > api.MaxObject {
		return "", api.ErrMany
	}
	var b strings.Builder
	b.WriteString(s)
	where := map[int]int{}
	for _, o := range objs {
		text, err := objectText(o)
		if err != nil {
			return "", err
		}
		if _, twice := where[o.N]; twice {
			return "", api.ErrShape
		}
		where[o.N] = b.Len()
		b.WriteString(text)
	}
	words, err := value.Text(last)
	if err != nil {
		return "", err
	}
	at := strconv.Itoa(b.Len())
	b.WriteString(lines(tableWord) + spans(where) + lines(lastWord, words, startWord, at, "%%EOF"))
	if b.Len() > api.MaxFile {
		return "", api.ErrMany
	}
	return b.String(), nil
}

// lines: texts, each with an end of a line behind it.
func lines(l ...string) string {
	return strings.Join(l, "\n") + "\n"
}

// objectText: an object, as it is laid.
func objectText(o api.Object) (string, error) {
	if !mayBe(o.N) {
		return "", api.ErrBound
	}
	v, err := laidValue(o)
	if err != nil {
		return "", err
	}
	text, err := value.Text(v)
	if err != nil {
		return "", err
	}
	s := lines(strconv.Itoa(o.N)+" 0 obj", text)
	if o.Stream {
		s += lines("stream", o.Data, "endstream")
	}
	return s + lines("endobj"), nil
}

// laidValue: the value of an object, as it is laid: that of a stream says how long it is.
func laidValue(o api.Object) (api.Value, error) {
	switch {
	case !o.Stream && o.Data != "":
		return api.Value{}, api.ErrShape
	case !o.Stream:
		return o.V, nil
	case o.V.Kind != api.Dict:
		return api.Value{}, api.ErrKind
	case len(o.Data) > api.MaxData:
		return api.Value{}, api.ErrMany
	}
	return value.Set(o.V, "Length", wholeValue(len(o.Data))), nil
}

// spans of numbers that follow each other, and where their objects begin.
func spans(where map[int]int) string {
	var b strings.Builder
	for l := numbers(where); len(l) > 0; {
		many := 1
		for many < len(l) && l[many] == l[0]+many {
			many++
		}
		b.WriteString(lines(strconv.Itoa(l[0]) + " " + strconv.Itoa(many)))
		for i := range many {
			at := strconv.Itoa(where[l[i]])
			b.WriteString(lines(strings.Repeat("0", mostDigits-len(at)) + at + " 00000 n "))
		}
		l = l[many:]
	}
	return b.String()
}
