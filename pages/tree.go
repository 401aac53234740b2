package pages

import (
	"slices"

	"foliowright/api"
	"foliowright/file"
	"foliowright/value"
)

// What pages have from above, unless they have it themselves.
const (
	boxName       = "MediaBox"
	resourcesName = "Resources"
)

// tree of pages: which objects were come to so far, and the pages among them.
type tree struct {
	f     *file.File
	seen  []int
	pages []api.Value
}

// find the pages of a file: their dictionaries, in order, with what they have from above.
func find(f *file.File) ([]api.Value, error) {
	n, err := f.Root()
	if err != nil {
		return nil, err
	}
	root, err := f.Follow(api.Value{Kind: api.Ref, N: n})
	if err != nil {
		return nil, err
	}
	t := tree{f: f}
	first, _ := value.Get(root, "Pages")
	// The root is no part of the tree: nothing is had from it.
	if err := t.walk(first, api.Value{}); err != nil {
		return nil, err
	}
	return t.pages, nil
}

// walk from a reference on.
func (t *tree) walk(v, above api.Value) error {
	if v.Kind != api.Ref {
		return api.ErrKind
	}
	if slices.Contains(t.seen, v.N) {
		return api.ErrCycle
	}
	t.seen = append(t.seen, v.N)
	v, err := t.f.Follow(v)
	if err != nil {
		return err
	}
	kind, _ := value.Get(v, "Type")
	if v.Kind != api.Dict || kind.Kind != api.Name {
		return api.ErrKind
	}
	v = inherit(v, above)
	switch kind.S {
	case "Page":
		return t.keep(v)
	case "Pages":
		return t.walkKids(v)
	}
	return api.ErrKind
}

// keep a page.
func (t *tree) keep(v api.Value) error {
	if len(t.pages) == api.MaxPages {
		return api.ErrMany
	}
	t.pages = append(t.pages, v)
	return nil
}

// walkKids: all that is below.
func (t *tree) walkKids(v api.Value) error {
	kids, err := follow(t.f, v, "Kids")
	if err != nil {
		return err
	}
	if kids.Kind != api.List {
		return api.ErrKind
	}
	for _, x := range kids.L {
		if err := t.walk(x, v); err != nil {
			return err
		}
	}
	return nil
}

// inherit from above what a dictionary hasn't itself.
func inherit(v, above api.Value) api.Value {
	for _, name := range []string{boxName, resourcesName} {
		if _, own := value.Get(v, name); own {
			continue
		}
		if x, ok := value.Get(above, name); ok {
			v = value.Set(v, name, x)
		}
	}
	return v
}
