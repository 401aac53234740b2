// Package value: values of a file, and their texts.
package value

import (
	"slices"
	"strings"

	"foliowright/api"
	"foliowright/fix"
)

// Check a value.
func Check(v api.Value) error {
	parts := 0
	few := func(_ api.Value, deep int) bool {
		parts++
		return parts <= api.MaxParts && deep <= api.MaxDeep
	}
	if !each(v, 1, few) {
		return api.ErrMany
	}
	if !each(v, 1, func(x api.Value, _ int) bool { return may(x) }) {
		return api.ErrShape
	}
	return nil
}

// each: does ok hold of v, which is so deep, and of all that is in it, whatever its Kind? It goes no further than to the first of which it doesn't.
func each(v api.Value, deep int, ok func(x api.Value, deep int) bool) bool {
	if !ok(v, deep) {
		return false
	}
	bad := func(x api.Value) bool { return !each(x, deep+1, ok) }
	return !slices.ContainsFunc(v.L, bad) &&
		!slices.ContainsFunc(v.F, func(f api.Field) bool { return bad(f.V) })
}

// may: is v a value, whatever those in it are?
func may(v api.Value) bool {
	ok, rest := false, v
	switch v.Kind {
	case api.Null:
		ok = true
	case api.Flag:
		ok, rest.N = v.N == 0 || v.N == 1, 0
	case api.Num:
		ok, rest.N = fix.Check(v.N) == nil, 0
	case api.Str:
		ok, rest.S = len(v.S) <= api.MaxBytes, ""
	case api.Name:
		ok, rest.S = NameMay(v.S), ""
	case api.List:
		ok, rest.L = true, nil
	case api.Dict:
		ok, rest.F = namesMay(v.F), nil
	case api.Ref:
		ok, rest.N = 1 <= v.N && v.N <= api.MaxObject, 0
	}
	return ok && rest.N == 0 && rest.S == "" && len(rest.L) == 0 && len(rest.F) == 0
}

// namesMay: may the names of fields be names, and do they rise?
func namesMay(l []api.Field) bool {
	ahead := ""
	return !slices.ContainsFunc(l, func(f api.Field) bool {
		bad := !NameMay(f.Name) || f.Name <= ahead
		ahead = f.Name
		return bad
	})
}

// NameMay: may something be called so?
func NameMay(s string) bool {
	return 1 <= len(s) && len(s) <= api.MaxBytes && strings.IndexByte(s, 0) < 0
}

// pair of values that are held against each other.
type pair struct{ a, b *api.Value }

// Alike: are two the same? What is still to be looked at stands in a list, since values that are none may be deeper than calls can be.
func Alike(a, b api.Value) bool {
	work := []pair{{&a, &b}}
	for len(work) > 0 {
		p := work[len(work)-1]
		work = work[:len(work)-1]
		if !sameOutside(p.a, p.b) {
			return false
		}
		for i := range p.a.L {
			work = append(work, pair{&p.a.L[i], &p.b.L[i]})
		}
		for i := range p.a.F {
			work = append(work, pair{&p.a.F[i].V, &p.b.F[i].V})
		}
	}
	return true
}

// sameOutside: are two the same, but for the values in them?
func sameOutside(a, b *api.Value) bool {
	sameName := func(f, g api.Field) bool { return f.Name == g.Name }
	return a.Kind == b.Kind && a.N == b.N && a.S == b.S &&
		len(a.L) == len(b.L) && slices.EqualFunc(a.F, b.F, sameName)
}

// Copy of a value. As in Alike, what is still to be copied stands in a list.
func Copy(v api.Value) api.Value {
	work := []*api.Value{&v}
	for len(work) > 0 {
		x := work[len(work)-1]
		work = work[:len(work)-1]
		x.L = append([]api.Value(nil), x.L...)
		x.F = append([]api.Field(nil), x.F...)
		for i := range x.L {
			work = append(work, &x.L[i])
		}
		for i := range x.F {
			work = append(work, &x.F[i].V)
		}
	}
	return v
}

// Get what a dictionary has by a name; false: nothing.
func Get(v api.Value, name string) (api.Value, bool) {
	at := find(v.F, name)
	if at < 0 {
		return api.Value{}, false
	}
	return Copy(v.F[at].V), true
}

// find: where the first field of a name is; below 0: there is none.
func find(l []api.Field, name string) int {
	return slices.IndexFunc(l, func(f api.Field) bool { return f.Name == name })
}

// Set what a dictionary has by a name: another one.
func Set(v api.Value, name string, x api.Value) api.Value {
	v, x = Copy(v), Copy(x)
	if at := find(v.F, name); at >= 0 {
		v.F[at].V = x
		return v
	}
	at := slices.IndexFunc(v.F, func(f api.Field) bool { return f.Name > name })
	if at < 0 {
		at = len(v.F)
	}
	v.F = slices.Insert(v.F, at, api.Field{Name: name, V: x})
	return v
}
