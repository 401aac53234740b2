package value_test

import (
	"fmt"
	"math"
	"runtime/debug"
	"strings"
	"testing"

	"foliowright/api"
	"foliowright/value"
)

func num(n int) api.Value                   { return api.Value{Kind: api.Num, N: n} }
func str(s string) api.Value                { return api.Value{Kind: api.Str, S: s} }
func name(s string) api.Value               { return api.Value{Kind: api.Name, S: s} }
func ref(n int) api.Value                   { return api.Value{Kind: api.Ref, N: n} }
func flag(n int) api.Value                  { return api.Value{Kind: api.Flag, N: n} }
func list(l ...api.Value) api.Value         { return api.Value{Kind: api.List, L: l} }
func dict(f ...api.Field) api.Value         { return api.Value{Kind: api.Dict, F: f} }
func field(n string, v api.Value) api.Field { return api.Field{Name: n, V: v} }

// inLists: v in so many lists; inDicts likewise.
func inLists(v api.Value, n int) api.Value {
	for range n {
		v = list(v)
	}
	return v
}

func inDicts(v api.Value, n int) api.Value {
	for range n {
		v = dict(field("d", v))
	}
	return v
}

// nulls: a list of so many.
func nulls(n int) []api.Value { return make([]api.Value, n) }

// fields: so many, by rising names.
func fields(n int) []api.Field {
	var l []api.Field
	for i := range n {
		l = append(l, field(fmt.Sprintf("n%05d", i), num(i)))
	}
	return l
}

func TestNameMay(t *testing.T) { // B1
	for _, s := range []string{"a", " ", "#", "/", "\n", "\xff", "é", "a b", strings.Repeat("x", 200), "\x01"} {
		if !value.NameMay(s) {
			t.Errorf("NameMay(%q): false", s)
		}
	}
	for _, s := range []string{"", "\x00", "a\x00", "\x00a", "a\x00b", strings.Repeat("x", 201), strings.Repeat("é", 101), strings.Repeat("x", 100000)} {
		if value.NameMay(s) {
			t.Errorf("NameMay(%.20q): true", s)
		}
	}
}

func TestCheckPasses(t *testing.T) { // B1
	for _, v := range []api.Value{
		{}, flag(0), flag(1), num(0), num(-1), num(api.MaxFix), num(-api.MaxFix), str(""), str("\x00\xff()"), str(strings.Repeat("x", 200)),
		name("a"), name(strings.Repeat("\xff", 200)), list(), {Kind: api.List, L: []api.Value{}}, list(num(1), list(), list(api.Value{})),
		dict(), {Kind: api.Dict, F: []api.Field{}}, dict(field("a", num(1)), field("b", num(1))), dict(field("B", list()), field("a", dict())),
		dict(field("a", num(1)), field("aa", num(1)), field("b", num(1))), dict(field("a", num(1)), field("z", num(1)), field("\xff", num(1))),
		ref(1), ref(60), {Kind: api.Num, N: 5, L: []api.Value{}, F: []api.Field{}}, // an empty list may be nil or not
	} {
		if err := value.Check(v); err != nil {
			t.Errorf("Check(%v): %v", v, err)
		}
	}
}

// wrong: values that are none.
func wrong() []api.Value {
	l := []api.Value{
		flag(2), flag(-1), flag(1000), num(api.MaxFix + 1), num(-api.MaxFix - 1), num(math.MinInt), num(math.MaxInt),
		str(strings.Repeat("x", 201)), name(""), name("a\x00"), name(strings.Repeat("x", 201)), ref(0), ref(-1), ref(61), ref(math.MinInt),
		dict(field("b", num(1)), field("a", num(1))), dict(field("a", num(1)), field("a", num(1))), dict(field("a", num(1)), field("B", num(1))),
		dict(field("", num(1))), dict(field("a\x00", num(1))), dict(field("\xff", num(1)), field("z", num(1))),
		dict(field(strings.Repeat("x", 201), num(1))), dict(field("a", num(1)), field("c", num(1)), field("b", num(1))),
		dict(field("aa", num(1)), field("a", num(1))), dict(field("a", num(1)), field("", num(1))),
	}
	for _, k := range []int{-1, 8, 9, math.MinInt, math.MaxInt} {
		l = append(l, api.Value{Kind: k}, api.Value{Kind: k, N: 1, S: "a"})
	}
	some := []api.Value{{}, flag(1), num(1), str("a"), name("a"), list(num(1)), dict(field("a", num(1))), ref(1)}
	for _, v := range some { // what a Kind has no use for isn't zero
		switch v.Kind {
		case api.Flag, api.Num, api.Ref:
		default:
			w := v
			w.N = 1
			l = append(l, w)
		}
		if v.Kind != api.Str && v.Kind != api.Name {
			w := v
			w.S = "a"
			l = append(l, w)
		}
		if v.Kind != api.List {
			w := v
			w.L = nulls(1)
			l = append(l, w)
		}
		if v.Kind != api.Dict {
			w := v
			w.F = fields(1)
			l = append(l, w)
		}
	}
	return l
}

func TestCheckShape(t *testing.T) { // B1
	for _, v := range wrong() {
		for _, in := range []api.Value{v, list(v), list(num(1), v), dict(field("k", v)), list(dict(field("a", num(1)), field("k", list(v))))} {
			if err := value.Check(in); err != api.ErrShape {
				t.Errorf("Check(%.200v): %v, want ErrShape", in, err)
			}
			if s, err := value.Text(in); s != "" || err != api.ErrShape {
				t.Errorf("Text(%.200v): %q, %v, want ErrShape", in, s, err)
			}
		}
	}
}

func TestCheckMany(t *testing.T) { // B1
	bad := num(api.MaxFix + 1)
	for i, c := range []struct {
		v    api.Value
		want error
	}{
		{list(nulls(299)...), nil},
		{list(nulls(300)...), api.ErrMany},
		{dict(fields(299)...), nil},
		{dict(fields(300)...), api.ErrMany},
		{list(list(nulls(149)...), list(nulls(148)...)), nil},
		{list(list(nulls(149)...), list(nulls(149)...)), api.ErrMany},
		{list(dict(fields(149)...), list(nulls(148)...)), nil},
		{list(dict(fields(149)...), list(nulls(149)...)), api.ErrMany},
		{list(nulls(100000)...), api.ErrMany},
		{inLists(num(1), 7), nil},
		{inLists(num(1), 8), api.ErrMany},
		{inDicts(num(1), 7), nil},
		{inDicts(num(1), 8), api.ErrMany},
		{inLists(inDicts(num(1), 4), 3), nil},
		{inLists(inDicts(num(1), 4), 4), api.ErrMany},
		{list(num(1), inLists(num(1), 7), num(1)), api.ErrMany},
		{inLists(list(), 7), nil},
		{inLists(list(), 8), api.ErrMany},
		// Told ahead of ErrShape, wherever the others stand.
		{list(append([]api.Value{bad}, nulls(299)...)...), api.ErrMany},
		{list(bad, inLists(num(1), 7)), api.ErrMany},
		{list(append([]api.Value{bad}, nulls(298)...)...), api.ErrShape},
		{list(bad, inLists(num(1), 6)), api.ErrShape},
		{api.Value{Kind: 99, L: nulls(300)}, api.ErrMany},
		// They are counted in L and F of any Kind.
		{api.Value{Kind: api.Num, L: nulls(300)}, api.ErrMany},
		{api.Value{Kind: api.List, F: fields(300)}, api.ErrMany},
		{api.Value{Kind: api.Dict, L: nulls(150), F: fields(150)}, api.ErrMany},
		{api.Value{Kind: api.Dict, L: nulls(150), F: fields(149)}, api.ErrShape},
		{api.Value{Kind: api.Str, L: []api.Value{inLists(num(1), 7)}}, api.ErrMany},
		{api.Value{Kind: api.Null, F: []api.Field{field("a", inLists(num(1), 7))}}, api.ErrMany},
		{api.Value{Kind: api.Null, F: []api.Field{field("a", inLists(num(1), 6))}}, api.ErrShape},
	} {
		if err := value.Check(c.v); err != c.want {
			t.Errorf("case %d: Check: %v, want %v", i, err, c.want)
		}
		if s, err := value.Text(c.v); err != c.want || (s == "") != (c.want != nil) {
			t.Errorf("case %d: Text: %.20q, %v, want %v", i, s, err, c.want)
		}
	}
}

func TestText(t *testing.T) { // B2
	for _, c := range []struct {
		v    api.Value
		want string
	}{
		{api.Value{}, "null"}, {flag(1), "true"}, {flag(0), "false"}, {num(0), "0"}, {num(-1250), "-1.25"}, {num(api.MaxFix), "1000000"},
		{str(""), "()"}, {str("a b~"), "(a b~)"}, {str(`(\)`), `(\(\\\))`}, {str("\x00\n\x1f\x7f\x80\xff"), `(\000\012\037\177\200\377)`},
		{str("é1"), `(\303\2511)`}, {str("#/%<>[]{}"), "(#/%<>[]{})"},
		{name("Type"), "/Type"}, {name("a b"), "/a#20b"}, {name("()<>[]{}/%#"), "/#28#29#3C#3E#5B#5D#7B#7D#2F#25#23"},
		{name("\x01\x1f\x7f\x80\xff~!"), "/#01#1F#7F#80#FF~!"}, {name(`\*'"`), `/\*'"`},
		{list(), "[]"}, {list(num(1000)), "[1]"}, {list(num(1500), str("x"), list(), api.Value{}), "[1.5 (x) [] null]"},
		{dict(), "<< >>"}, {dict(field("A", num(1000))), "<< /A 1 >>"},
		{dict(field("A b", list(ref(7))), field("B", dict(field("#", flag(1))))), "<< /A#20b [7 0 R] /B << /#23 true >> >>"},
		{dict(field("Count", num(1000)), field("Kids", list(ref(8))), field("Type", name("Pages"))), "<< /Count 1 /Kids [8 0 R] /Type /Pages >>"},
		{ref(1), "1 0 R"}, {ref(60), "60 0 R"},
	} {
		if s, err := value.Text(c.v); s != c.want || err != nil {
			t.Errorf("Text(%v): %q, %v, want %q", c.v, s, err, c.want)
		}
	}
}

func TestTextOfBytes(t *testing.T) { // B2
	for c := range 256 {
		one := string([]byte{byte(c)})
		want := one
		switch {
		case c < 32 || c > 126:
			want = fmt.Sprintf(`\%03o`, c)
		case strings.Contains(`()\`, one):
			want = `\` + one
		}
		if s, err := value.Text(str("x" + one + "7")); s != "(x"+want+"7)" || err != nil {
			t.Errorf("byte %d in a string: %q, %v", c, s, err)
		}
		if c == 0 {
			continue
		}
		want = one
		if c < 33 || c > 126 || strings.Contains("()<>[]{}/%#", one) {
			want = fmt.Sprintf("#%02X", c)
		}
		if s, err := value.Text(name(one + "7")); s != "/"+want+"7" || err != nil {
			t.Errorf("byte %d in a name: %q, %v", c, s, err)
		}
		if s, err := value.Text(dict(field(one, num(0)))); s != "<< /"+want+" 0 >>" || err != nil {
			t.Errorf("byte %d in a field's name: %q, %v", c, s, err)
		}
	}
}

// sample: a value that has some of all; each call makes another one.
func sample() api.Value {
	return dict(
		field("A", list(num(1), str("s"), list(name("n"), ref(3)), api.Value{})),
		field("K", dict(field("x", flag(1)), field("y", list(num(2))))),
		field("Z", num(9)),
	)
}

func TestAlike(t *testing.T) { // B3
	some := append(wrong(), api.Value{}, flag(0), flag(1), num(0), num(1), num(2), str(""), str("a"), str("b"), name("a"), name("b"), ref(1), ref(2),
		list(), list(num(1)), list(num(2)), list(num(1), num(2)), list(num(2), num(1)), list(list()), list(list(num(1))), list(list(num(2))),
		dict(), dict(field("a", num(1))), dict(field("a", num(2))), dict(field("b", num(1))), dict(field("a", num(1)), field("b", num(1))),
		dict(field("a", list(num(1)))), dict(field("a", list(num(2)))), sample())
	for i, a := range some {
		for k, b := range some {
			same := fmt.Sprintf("%#v", a) == fmt.Sprintf("%#v", b)
			if got := value.Alike(a, b); got != same {
				t.Errorf("Alike of %d, %d (%.100v, %.100v): %v", i, k, a, b, got)
			}
		}
	}
	a, b := list(), api.Value{Kind: api.List, L: []api.Value{}, F: []api.Field{}}
	if !value.Alike(a, b) || !value.Alike(list(b), list(a)) {
		t.Error("an empty list may be nil or not")
	}
}

func TestCopy(t *testing.T) { // B3, Z2
	for _, v := range append(wrong(), api.Value{}, list(), sample(), list(sample(), sample()), dict(fields(20)...)) {
		if w := value.Copy(v); !value.Alike(v, w) {
			t.Errorf("Copy(%.100v): %.100v", v, w)
		}
	}
	v := sample()
	w := value.Copy(v)
	spoil(&w)
	if !value.Alike(v, sample()) {
		t.Errorf("a copy shares memory with what it is of: %v", v)
	}
	one := list(num(1))
	twice := value.Copy(list(one, one))
	twice.L[0].L[0] = num(2)
	if !value.Alike(twice.L[1], list(num(1))) {
		t.Error("two lists of a copy share memory")
	}
}

// spoil: all that is in a value, and all the memory behind its lists, is written over.
func spoil(v *api.Value) {
	for i := range v.L {
		spoil(&v.L[i])
	}
	for i := range v.F {
		spoil(&v.F[i].V)
	}
	l, f := v.L[:cap(v.L)], v.F[:cap(v.F)]
	for i := range l {
		l[i] = str("spoilt")
	}
	for i := range f {
		f[i] = field("spoilt", str("spoilt"))
	}
}

// spare: lists of a value have memory behind them, in which something stands.
func spare(v api.Value) api.Value {
	var l []api.Value
	for _, x := range v.L {
		l = append(l, spare(x))
	}
	var f []api.Field
	for _, x := range v.F {
		f = append(f, field(x.Name, spare(x.V)))
	}
	l, f = append(l, str("behind")), append(f, field("Q", str("behind")))
	v.L, v.F = l[:len(l)-1], f[:len(f)-1]
	return v
}

// behindIsWhole: does what stands behind lists still stand there?
func behindIsWhole(v api.Value) bool {
	for _, x := range v.L {
		if !behindIsWhole(x) {
			return false
		}
	}
	for _, x := range v.F {
		if !behindIsWhole(x.V) {
			return false
		}
	}
	return v.L[:len(v.L)+1][len(v.L)].S == "behind" && v.F[:len(v.F)+1][len(v.F)].V.S == "behind"
}

func TestArgumentsStay(t *testing.T) { // Z2
	v, x := spare(sample()), spare(list(num(1), num(2)))
	value.Check(v)
	value.Text(v)
	value.Alike(v, spare(sample()))
	got, _ := value.Get(v, "A")
	for _, w := range []api.Value{value.Copy(v), got, value.Set(v, "A", x), value.Set(v, "Q", x), value.Set(v, "Zz", x), value.Set(v, "B", x)} {
		if strings.Contains(fmt.Sprint(w), "behind") {
			t.Errorf("what stands behind a list was read: %v", w)
		}
		spoil(&w)
	}
	if _, is := value.Get(v, "Q"); is {
		t.Error("Get looked behind the fields")
	}
	if !value.Alike(v, sample()) || !behindIsWhole(v) {
		t.Errorf("a value that was handed in was written into: %v", v)
	}
	if !value.Alike(x, list(num(1), num(2))) || !behindIsWhole(x) {
		t.Errorf("a value that was handed in was written into: %v", x)
	}
}

func TestGet(t *testing.T) { // B3
	twice := dict(field("b", num(1)), field("a", num(2)), field("a", num(3)), field("", num(4)))
	for _, c := range []struct {
		v    api.Value
		name string
		want api.Value
		is   bool
	}{
		{sample(), "Z", num(9), true},
		{sample(), "K", dict(field("x", flag(1)), field("y", list(num(2)))), true},
		{sample(), "x", api.Value{}, false}, // it isn't looked for in what is in it
		{sample(), "a", api.Value{}, false},
		{sample(), "", api.Value{}, false},
		{dict(field("n", api.Value{})), "n", api.Value{}, true},
		{dict(), "a", api.Value{}, false},
		{api.Value{}, "a", api.Value{}, false},
		{list(num(1)), "a", api.Value{}, false},
		{twice, "a", num(2), true},
		{twice, "", num(4), true},
		{api.Value{Kind: api.Num, F: twice.F}, "b", num(1), true}, // in F, whatever the Kind
		{api.Value{Kind: -5, F: twice.F}, "c", api.Value{}, false},
	} {
		if v, is := value.Get(c.v, c.name); is != c.is || !value.Alike(v, c.want) {
			t.Errorf("Get(%v, %q): %v, %v, want %v, %v", c.v, c.name, v, is, c.want, c.is)
		}
	}
}

func TestSet(t *testing.T) { // B3
	two := dict(field("b", num(1)), field("d", num(2)))
	for _, c := range []struct {
		v          api.Value
		name, want string
	}{
		{dict(), "a", "<< /a [0.007] >>"},
		{two, "a", "<< /a [0.007] /b 0.001 /d 0.002 >>"},
		{two, "b", "<< /b [0.007] /d 0.002 >>"},
		{two, "c", "<< /b 0.001 /c [0.007] /d 0.002 >>"},
		{two, "d", "<< /b 0.001 /d [0.007] >>"},
		{two, "e", "<< /b 0.001 /d 0.002 /e [0.007] >>"},
		{two, "Z", "<< /Z [0.007] /b 0.001 /d 0.002 >>"},
		{two, "bb", "<< /b 0.001 /bb [0.007] /d 0.002 >>"},
		{two, "\xff", "<< /b 0.001 /d 0.002 /#FF [0.007] >>"},
	} {
		got := value.Set(c.v, c.name, list(num(7)))
		if s, err := value.Text(got); s != c.want || err != nil {
			t.Errorf("Set(%v, %q): %v, %v, want %v", c.v, c.name, s, err, c.want)
		}
		if back, is := value.Get(got, c.name); !is || !value.Alike(back, list(num(7))) {
			t.Errorf("Get behind Set(%v, %q): %v, %v", c.v, c.name, back, is)
		}
	}
	one := list(num(1))
	both := value.Set(dict(field("a", one)), "b", one)
	both.F[0].V.L[0] = num(2)
	if !value.Alike(both.F[1].V, list(num(1))) || one.L[0].N != 1 {
		t.Error("two lists of what was set share memory")
	}
	for _, v := range wrong() { // nothing is said, but that it ends
		value.Set(v, "b", v)
		value.Set(dict(), "", v)
	}
}

// TestDeep: calls end at values that are deeper than calls can be.
func TestDeep(t *testing.T) { // Z1
	defer debug.SetMaxStack(debug.SetMaxStack(8 << 20))
	a, b, c := inLists(num(1), 200000), inLists(num(1), 200000), inLists(num(2), 200000)
	if !value.Alike(a, b) || value.Alike(a, c) || !value.Alike(value.Copy(a), a) {
		t.Error("deep values aren't held against each other")
	}
	if err := value.Check(a); err != api.ErrMany {
		t.Errorf("Check: %v", err)
	}
	v := dict(field("a", a))
	if got, is := value.Get(v, "a"); !is || !value.Alike(got, a) {
		t.Error("Get of a deep one")
	}
	if !value.Alike(value.Set(v, "b", c), dict(field("a", b), field("b", c))) {
		t.Error("Set of a deep one")
	}
	if d, e := inDicts(num(1), 200000), inDicts(num(2), 200000); value.Alike(d, e) || !value.Alike(value.Copy(d), d) {
		t.Error("deep dictionaries aren't held against each other")
	}
	loop := list(api.Value{})
	loop.L[0] = loop
	if s, err := value.Text(loop); s != "" || err != api.ErrMany {
		t.Errorf("Text of a list that is in itself: %q, %v", s, err)
	}
}
