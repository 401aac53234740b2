package press

import (
	"foliowright/api"
	"foliowright/value"
)

// dict of fields, in whatever order they are told: Set keeps their names rising.
func dict(fields ...api.Field) api.Value {
	v := api.Value{Kind: api.Dict}
	for _, f := range fields {
		v = value.Set(v, f.Name, f.V)
	}
	return v
}

func field(name string, v api.Value) api.Field {
	return api.Field{Name: name, V: v}
}

func list(l ...api.Value) api.Value {
	return api.Value{Kind: api.List, L: l}
}

func op(name string, args ...api.Value) api.Op {
	return api.Op{Name: name, Args: args}
}

func name(s string) api.Value {
	return api.Value{Kind: api.Name, S: s}
}

// names that texts are.
func names(l []string) []api.Value {
	var out []api.Value
	for _, s := range l {
		out = append(out, name(s))
	}
	return out
}

func str(s string) api.Value {
	return api.Value{Kind: api.Str, S: s}
}

func ref(n int) api.Value {
	return api.Value{Kind: api.Ref, N: n}
}

// number of so many thousandths.
func number(n int) api.Value {
	return api.Value{Kind: api.Num, N: n}
}

// whole number.
func whole(n int) api.Value {
	return number(n * api.Whole)
}
