package value

import (
	"strconv"
	"strings"

	"foliowright/api"
	"foliowright/fix"
)

// Text of a value.
func Text(v api.Value) (string, error) {
	if err := Check(v); err != nil {
		return "", err
	}
	return string(addText(nil, v)), nil
}

// addText: b, and the text of a value that may be.
func addText(b []byte, v api.Value) []byte {
	switch v.Kind {
	case api.Null:
		return append(b, "null"...)
	case api.Flag:
		return strconv.AppendBool(b, v.N == 1)
	case api.Num:
		s, _ := fix.Text(v.N) // Check let the number pass.
		return append(b, s...)
	case api.Str:
		return addString(b, v.S)
	case api.Name:
		return addName(b, v.S)
	case api.List:
		return addList(b, v.L)
	case api.Dict:
		return addDict(b, v.F)
	}
	return append(strconv.AppendInt(b, int64(v.N), 10), " 0 R"...)
}

func addString(b []byte, s string) []byte {
	b = append(b, '(')
	for i := range len(s) {
		switch c := s[i]; {
		case c < 32 || c > 126:
			b = append(b, '\\')
			for k := range 3 {
				b = append(b, '0'+c>>(6-3*k)&7)
			}
		case c == '(' || c == ')' || c == '\\':
			b = append(b, '\\', c)
		default:
			b = append(b, c)
		}
	}
	return append(b, ')')
}

func addName(b []byte, s string) []byte {
	const digits = "0123456789ABCDEF"
	b = append(b, '/')
	for i := range len(s) {
		if c := s[i]; c < 33 || c > 126 || strings.IndexByte("()<>[]{}/%#", c) >= 0 {
			b = append(b, '#', digits[c>>4], digits[c&15])
		} else {
			b = append(b, c)
		}
	}
	return b
}

func addList(b []byte, l []api.Value) []byte {
	b = append(b, '[')
	for i, x := range l {
		if i > 0 {
			b = append(b, ' ')
		}
		b = addText(b, x)
	}
	return append(b, ']')
}

func addDict(b []byte, l []api.Field) []byte {
	b = append(b, "<<"...)
	for _, f := range l {
		b = append(addName(append(b, ' '), f.Name), ' ')
		b = addText(b, f.V)
	}
	return append(b, " >>"...)
}
