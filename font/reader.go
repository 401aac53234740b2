package font

import (
	"foliowright/api"
	"foliowright/cmap"
	"foliowright/file"
	"foliowright/value"
)

// namedCodes: so many codes can have names; behind the last one comes the first one again.
const namedCodes = 256

// reader of a font: its file, its dictionary, and what was read of it by now.
type reader struct {
	f *file.File
	v api.Value
	x api.Font
}

// Read a font of a file.
func Read(f *file.File, v api.Value) (api.Font, error) {
	r := reader{f: f}
	var err error
	if r.v, err = r.follow(v, api.Dict); err != nil {
		return api.Font{}, err
	}
	for _, step := range r.steps() {
		if err := step(); err != nil {
			return api.Font{}, err
		}
	}
	return r.x, nil
}

// steps of reading, in the order in which their errors are told.
func (r *reader) steps() []func() error {
	if v, _ := value.Get(r.v, "Subtype"); v.Kind == api.Name && v.S == "Type0" {
		return []func() error{r.miss, r.wide, r.codes}
	}
	return []func() error{r.miss, r.simple, r.names, r.codes}
}

// follow a value to one of that kind; ErrKind: it leads to another one.
func (r *reader) follow(v api.Value, kind int) (api.Value, error) {
	v, err := r.f.Follow(v)
	if err != nil {
		return api.Value{}, err
	}
	if v.Kind != kind {
		return api.Value{}, api.ErrKind
	}
	return v, nil
}

// withList: what is to be done with the list that a dictionary has by a name; without it, nothing is.
func (r *reader) withList(dict api.Value, name string, do func(l []api.Value) error) error {
	v, there := value.Get(dict, name)
	if !there {
		return nil
	}
	v, err := r.follow(v, api.List)
	if err != nil {
		return err
	}
	return do(v.L)
}

// miss: how wide codes are of which no width is told.
func (r *reader) miss() error {
	v, _ := value.Get(r.v, "MissingWidth")
	v, err := r.f.Follow(v)
	if v.Kind == api.Num {
		r.x.Miss = v.N / api.Whole
	}
	return err
}

// simple: the widths of codes of one byte.
func (r *reader) simple() error {
	r.x.Widths = map[int]int{}
	return r.withList(r.v, "Widths", r.row)
}

// row of widths, whose first one is FirstChar's.
func (r *reader) row(l []api.Value) error {
	v, _ := value.Get(r.v, "FirstChar")
	v, err := r.f.Follow(v)
	if err != nil {
		return err
	}
	code, ok := whole(v)
	if !ok {
		return api.ErrKind
	}
	return r.widths(code, l)
}

// wide: that codes have two bytes, and their widths.
func (r *reader) wide() error {
	r.x.Wide, r.x.Widths = true, map[int]int{}
	return r.withList(r.v, "W", r.rows)
}

// rows of widths, ahead of each its first one's code.
func (r *reader) rows(l []api.Value) error {
	if len(l)%2 != 0 {
		return api.ErrKind
	}
	for ; len(l) > 0; l = l[2:] {
		code, ok := whole(l[0])
		if !ok {
			return api.ErrKind
		}
		row, err := r.follow(l[1], api.List)
		if err != nil {
			return err
		}
		if err := r.widths(code, row.L); err != nil {
			return err
		}
	}
	return nil
}

// widths of codes, one behind the other.
func (r *reader) widths(code int, l []api.Value) error {
	for i, v := range l {
		v, err := r.follow(v, api.Num)
		if err != nil {
			return err
		}
		if code+i > api.MaxCode || len(r.x.Widths) > api.MaxParts {
			return api.ErrMany
		}
		r.x.Widths[code+i] = v.N / api.Whole
	}
	return nil
}

// names of codes; an encoding that has a name itself tells none.
func (r *reader) names() error {
	r.x.Names = map[int]string{}
	v, _ := value.Get(r.v, "Encoding")
	v, err := r.f.Follow(v)
	if err != nil || v.Kind != api.Dict {
		return err
	}
	return r.withList(v, "Differences", r.differences)
}

// differences: names, and ahead of some of them their codes.
func (r *reader) differences(l []api.Value) error {
	code := 0
	for _, v := range l {
		if n, ok := whole(v); ok {
			code = n % namedCodes
			continue
		}
		if v.Kind != api.Name {
			return api.ErrKind
		}
		r.x.Names[code] = v.S
		code = (code + 1) % namedCodes
	}
	return nil
}

// codes: what they are as text, by a program.
func (r *reader) codes() error {
	v, there := value.Get(r.v, "ToUnicode")
	if !there {
		return nil
	}
	if v.Kind != api.Ref {
		return api.ErrKind
	}
	s, err := r.f.Data(v.N)
	if err != nil {
		return err
	}
	l, wide, err := cmap.Parse(s)
	if err != nil {
		return err
	}
	if wide != r.x.Wide && len(l) > 0 {
		return api.ErrShape
	}
	r.x.Codes = l
	return nil
}

// whole number from 0 on that a value is; false: it is none.
func whole(v api.Value) (int, bool) {
	if v.Kind != api.Num || v.N < 0 || v.N%api.Whole != 0 {
		return 0, false
	}
	return v.N / api.Whole, true
}
