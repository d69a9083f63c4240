package value_test

import (
	"math"
	"slices"
	"strconv"
	"strings"
	"testing"

	"handloom/api"
	"handloom/value"
)

// of wants a value to be of a type, or not; both readings must tell so.
func of(t *testing.T, want bool, l []api.Data, v api.Value, x api.Type) {
	t.Helper()
	if got := value.Of(l, v, x); got != want || wantOf(l, v, x) != want {
		t.Errorf("Of(%s, %s, %s) = %v, want %v", short(l), short(v), short(x), got, want)
	}
}

// P8.1: values of each kind, in one another, and the types of which they are
func TestOf(t *testing.T) {
	l := someTypes(t)
	all := []string{"int", "bytes", "bool", "act", "list", "tree", "text", "even", "odd", "flag", "empty", "none", "(int * bytes)", "(int * list)", "(list * (bool * int))"}
	for src, is := range map[string]string{
		"0": "int", "~4611686018427387903": "int", "\"\"": "bytes", "\"ab\"": "bytes", "True": "bool", "False": "bool", "Done": "act", "Say(1, Done)": "act",
		"Tell(\"a\", Say(~2, Done))": "act", "Arm(1, 2, Stop(3, Done))": "act", "Nil": "list", "Cons(1, Nil)": "list", "Cons(1, Cons(2, Cons(3, Nil)))": "list",
		"Leaf": "tree", "Node(Leaf, (1, Nil), Node(Leaf, (2, Cons(3, Nil)), Leaf))": "tree", "Text(\"a\")": "text", "Two(\"\", \"a\")": "text",
		"Zero": "even", "Odd(Zero)": "odd", "Even(Odd(Zero))": "even", "Flag(True, (Unflag, 1))": "flag", "Flag(False, (Flag(True, (Unflag, 1)), 2))": "flag",
		"(1, \"a\")": "(int * bytes)", "(1, Nil)": "(int * list)", "(Cons(1, Nil), (True, 2))": "(list * (bool * int))",
		// and such as are of none
		"Cons(1)": "", "Cons(1, 2)": "", "Cons(1, Nil, Nil)": "", "Cons(Nil, 1)": "", "Nil(1)": "", "Cons": "", "Cons(1, Leaf)": "", "Cons(1, Cons(\"2\", Nil))": "",
		"Say(1)": "", "Say(True, Done)": "", "Tell(1, Done)": "", "Arm(1, Done)": "", "Text(1)": "", "Two(\"a\")": "", "Text(\"a\", \"b\")": "", "Missing": "", "Missing(1)": "",
		"Node(Leaf, (1, Nil, 2), Leaf)": "", "Node(Leaf, 1, Leaf)": "", "Node(Leaf, (1, Leaf), Leaf)": "", "Odd(Odd(Zero))": "", "Even(Zero)": "", "Empty(Unflag)": "",
		"(1, 2)": "", "(\"a\", 1)": "", "(1, \"a\", 2)": "", "(1, (2, Nil))": "", "Flag(True, (Unflag, Nil))": "", "Flag(Unflag, (Unflag, 1))": "",
	} {
		for _, x := range all {
			of(t, x == is, l, val(t, src), typ(t, x))
		}
	}
}

// P8.1: the least and the greatest number, and those behind them
func TestOfNumbers(t *testing.T) {
	const most = 1<<62 - 1
	for n, want := range map[int64]bool{
		0: true, most: true, -most: true, -most - 1: true, most - 1: true, most + 1: false, -most - 2: false, math.MaxInt64: false, math.MinInt64: false,
	} {
		of(t, want, nil, num(n), number())
		of(t, want, nil, tuple(num(1), tuple(num(n), text(""))), pack(number(), pack(number(), bytesType())))
		of(t, want, someTypes(t), con("Cons", num(1), con("Cons", num(n), con("Nil"))), data("list"))
		of(t, false, nil, num(n), bytesType())
	}
}

// P8.1: texts of as many bytes as may be, of more, of any
func TestOfTexts(t *testing.T) {
	for count, want := range map[int]bool{0: true, 1: true, 63: true, 64: true, 65: false, 66: false, 1 << 16: false} {
		of(t, want, nil, long(count), bytesType())
		of(t, want, someTypes(t), con("Two", text("a"), long(count)), data("text"))
		of(t, false, nil, long(count), number())
	}
	of(t, true, nil, text("\xff\x00\n\"é"), bytesType())
	of(t, true, nil, api.Value{Kind: api.VaBytes, Bytes: []byte{}}, bytesType())
}

// P8.1: types that are not there, the first of several, and what it has
func TestOfFound(t *testing.T) {
	l := []api.Data{
		typed("a", makes("A"), makes("B", number())), typed("b", makes("B", data("a")), makes("C", data("none"))), typed("a", makes("D")), typed("", makes("", number())),
		typed("int", makes("I")),
	}
	of(t, true, l, con("A"), data("a"))
	of(t, true, l, con("B", num(1)), data("a"))
	of(t, false, l, con("D"), data("a"))
	of(t, true, l[1:], con("D"), data("a"))
	of(t, false, l[1:], con("A"), data("a"))
	of(t, true, l, con("B", con("A")), data("b"))
	of(t, false, l, con("B", con("D")), data("b"))
	of(t, false, l, con("B", num(1)), data("b"))
	of(t, true, l, con("", num(1)), data(""))
	of(t, false, l, con("A"), data(""))
	of(t, true, l, con("I"), data("int"))
	of(t, false, l, num(1), data("int"))
	for _, v := range []api.Value{con("A"), con("C", con("A")), con("C", num(1)), con("none"), num(0), tuple()} {
		of(t, false, l, v, data("none"))
		of(t, false, l, v, data("b"))
		of(t, false, nil, v, data("a"))
		of(t, false, []api.Data{{Name: "a"}}, v, data("a"))
	}
}

// P8.1: a type that has several constructors of one name has a value of any of them
func TestOfConstructorsOfOneName(t *testing.T) {
	l := []api.Data{
		typed("t", makes("A"), makes("A", number()), makes("A", bytesType()), makes("A", data("t"), number()), makes("A", data("u"), bytesType())),
		typed("u", makes("A", number()), makes("A", data("t"))),
	}
	for _, v := range []api.Value{
		con("A"), con("A", num(1)), con("A", text("a")), con("A", con("A"), num(1)), con("A", con("A", num(1)), num(1)), con("A", con("A", num(1)), text("a")),
		con("A", con("A", con("A", text("a"))), text("a")),
	} {
		of(t, true, l, v, data("t"))
	}
	for _, v := range []api.Value{
		con("A", tuple()), con("A", con("A"), text("a")), con("A", con("A", text("a")), text("a")), con("A", con("A", con("A")), num(1)), con("A", num(1), num(1)),
	} {
		of(t, false, l, v, data("t"))
	}
}

// P8.1: what an empty tuple is of
func TestOfNothing(t *testing.T) {
	of(t, true, nil, api.Value{}, api.Type{})
	of(t, true, nil, tuple(), pack())
	of(t, false, nil, tuple(), api.Type{})
	of(t, false, nil, tuple(), pack(number()))
	of(t, false, nil, tuple(num(0)), pack())
	of(t, false, nil, api.Value{}, pack())
	of(t, true, []api.Data{typed("a", makes("A"))}, api.Value{Kind: api.VaCon, Name: "A", Bytes: []byte{}, Kids: []api.Value{}}, data("a"))
}

// P8.1: what a value's kind does not have, at any depth
func TestOfWhatShouldBeNothing(t *testing.T) {
	l := someTypes(t)
	spoilt := []api.Value{
		{Num: 1, Bytes: []byte{0}}, {Num: 1, Name: "A"}, {Num: 1, Kids: []api.Value{num(1)}},
		{Kind: api.VaBytes, Num: 1}, {Kind: api.VaBytes, Name: "A"}, {Kind: api.VaBytes, Kids: []api.Value{num(1)}},
		{Kind: api.VaCon, Name: "Nil", Num: 1}, {Kind: api.VaCon, Name: "Nil", Bytes: []byte{0}}, {Kind: api.VaCon, Name: "Nil", Num: -1, Bytes: []byte("ab")},
		{Kind: api.VaTuple, Num: 1, Kids: []api.Value{num(1), num(2)}}, {Kind: api.VaTuple, Bytes: []byte{0}, Kids: []api.Value{num(1), num(2)}},
		{Kind: api.VaTuple, Name: "A", Kids: []api.Value{num(1), num(2)}}, {Kind: 4}, {Kind: 4, Kids: []api.Value{num(1), num(2)}}, {Kind: -1}, {Kind: math.MinInt},
	}
	kinds := []api.Type{number(), bytesType(), data("list"), pack(number(), number()), {Kind: 4}, {Kind: -1}, {Kind: math.MinInt}}
	for _, v := range spoilt {
		for _, x := range kinds {
			of(t, false, l, v, x)
			of(t, false, l, tuple(num(0), tuple(v, num(0))), pack(number(), pack(x, number())))
		}
	}
	for _, v := range []api.Value{num(1), text("a"), con("Nil"), tuple(num(1), num(2)), {}} {
		for _, kind := range []int{4, -1, 99, math.MaxInt} {
			of(t, false, l, v, api.Type{Kind: kind, Name: "list"})
		}
	}
}

// P8.1: values as deep as may be, and deeper
func TestOfDepth(t *testing.T) {
	l := append(someTypes(t), typed("deep", makes("A", data("deep")), makes("B", number(), data("deep")), makes("C", pack(data("odd"), data("deep"))), makes("Z")))
	pairs := func(count int) (api.Value, api.Type) {
		v, x := num(1), number()
		for range count - 1 {
			v, x = tuple(v, text("a")), pack(x, bytesType())
		}
		return v, x
	}
	for _, depth := range []int{1, 2, 64, 65, 998, 999, 1000, 1001, 1002, 2000, 1 << 14} {
		want := depth <= 1000
		of(t, want, l, row(depth), data("list"))
		of(t, want, l, nested(depth-1, con("Z"), func(v api.Value) api.Value { return con("A", v) }), data("deep"))
		of(t, want, l, nested(depth-1, con("Z"), func(v api.Value) api.Value { return con("B", num(1), v) }), data("deep"))
		v, x := pairs(depth)
		of(t, want, l, v, x)
		of(t, false, l, v, pack(x, bytesType()))
		of(t, false, l, nested(depth-1, con("Nil"), func(v api.Value) api.Value { return con("A", v) }), data("deep"))
	}
	odd := con("Odd", con("Zero"))
	for depth, want := range map[int]bool{499: true, 500: false} {
		v := nested(depth, con("Z"), func(v api.Value) api.Value { return con("C", tuple(odd, v)) })
		of(t, want, l, v, data("deep"))
		of(t, want && depth < 499, l, tuple(v, num(1), num(2)), pack(data("deep"), number(), number()))
	}
}

// P8.1: each field of a value, of its type, and of all types by itself, at any depth
func TestOfByOneField(t *testing.T) {
	l := someTypes(t)
	srcs := map[string]string{
		"7": "int", "\"ab\"": "bytes", "Cons(1, Cons(2, Nil))": "list", "Node(Leaf, (1, Nil), Node(Leaf, (2, Cons(3, Nil)), Leaf))": "tree",
		"(Two(\"a\", \"\"), (True, Arm(1, 2, Done)))": "(text * (bool * act))", "Flag(True, (Flag(False, (Unflag, ~1)), 2))": "flag",
	}
	seen := map[bool]int{}
	for src, types := range srcs {
		v, x := val(t, src), typ(t, types)
		changes(v, func(c api.Value, field string) {
			want := wantOf(l, c, x)
			of(t, want, l, c, x)
			seen[want]++
		})
		changes(x, func(c api.Type, field string) {
			want := wantOf(l, v, c)
			of(t, want, l, v, c)
			seen[want]++
		})
		changes(l, func(c []api.Data, field string) {
			want := wantOf(c, v, x)
			of(t, want, c, v, x)
			seen[want]++
		})
	}
	if seen[true] < 100 || seen[false] < 100 {
		t.Errorf("of %v that were changed too few were of their types, or were not", seen)
	}
}

// P8.1: a part that is of another type, however deep it stands
func TestOfOneOtherPart(t *testing.T) {
	l := someTypes(t)
	others := []api.Value{num(1), text("a"), con("Nil"), con("Leaf"), con("Missing"), tuple(num(1), con("Nil")), con("Cons", num(1), con("Nil"))}
	v := val(t, "Node(Node(Leaf, (1, Cons(2, Nil)), Leaf), (3, Nil), Node(Leaf, (4, Nil), Node(Leaf, (5, Cons(6, Cons(7, Nil))), Leaf)))")
	seen := map[bool]int{}
	var put func(at *api.Value)
	put = func(at *api.Value) {
		old := *at
		for _, other := range others {
			*at = other
			want := wantOf(l, v, data("tree"))
			of(t, want, l, v, data("tree"))
			seen[want]++
		}
		*at = old
		for i := range at.Kids {
			put(&at.Kids[i])
		}
	}
	put(&v)
	if seen[true] < 10 || seen[false] < 50 {
		t.Errorf("of %v with another part too few were of the type, or were not", seen)
	}
}

// askOf asks of values that look like chance, some of them of their types, what both readings tell.
func askOf(t *testing.T, count int, tell func(l []api.Data, v api.Value, x api.Type)) {
	t.Helper()
	s := sower(88172645463325252)
	seen := map[bool]int{}
	for range count {
		names := []string{"a", "b", "c", "", "int"}[:1+s.below(5)]
		cons := []string{"A", "B", "C", "", "Nil"}[:1+s.below(5)]
		l := s.anyTypes(names, cons)
		x := s.anyType(names, 3)
		for range 4 {
			v := s.valueOf(l, x, 3)
			if s.below(3) == 0 {
				v = s.anyValue(cons, 4)
			}
			want := wantOf(l, v, x)
			of(t, want, l, v, x)
			seen[want]++
			if want {
				tell(l, v, x)
			}
		}
	}
	if seen[true] < count/2 || seen[false] < count/2 {
		t.Errorf("of %v values too few were of their types, or were not", seen)
	}
}

// P8.1: values, types and lists of types of any form
func TestOfAnyForm(t *testing.T) {
	askOf(t, 4000, func([]api.Data, api.Value, api.Type) {})
}

// goesDown wants the parts of a value that is of a type to be of its fields' types, with fewer words than it has.
func goesDown(t *testing.T, l []api.Data, v api.Value, x api.Type) {
	t.Helper()
	rows := [][]api.Type{x.Parts}
	if x.Kind == api.TyData {
		rows = nil
		for _, c := range consOf(l, x.Name) {
			if c.Name == v.Name && len(c.Fields) == len(v.Kids) {
				rows = append(rows, c.Fields)
			}
		}
	}
	if len(v.Kids) == 0 {
		return
	}
	// of several constructors of one name one has them
	are := func(row []api.Type) bool {
		for i, kid := range v.Kids {
			if !value.Of(l, kid, row[i]) {
				return false
			}
		}
		return len(row) == len(v.Kids)
	}
	at := slices.IndexFunc(rows, are)
	if at < 0 {
		t.Errorf("%s is of %s, but its parts are of none of its fields' types", short(v), short(x))
		return
	}
	for i, kid := range v.Kids {
		if value.Size(kid, math.MaxInt) >= value.Size(v, math.MaxInt) {
			t.Errorf("%s has as many words as %s, in which it is", short(kid), short(v))
		}
		goesDown(t, l, kid, rows[at][i])
	}
}

// P8.6: values and all of their parts
func TestPartsOfValues(t *testing.T) {
	askOf(t, 2000, func(l []api.Data, v api.Value, x api.Type) { goesDown(t, l, v, x) })
	l := someTypes(t)
	s := sower(362436069)
	seen := map[string]int{}
	for range 1000 {
		x := pick(&s, []string{"list", "tree", "text", "even", "odd", "flag", "act", "(int * (tree * flag))", "(bytes * bool)"})
		v := s.valueOf(l, typ(t, x), 5)
		if value.Of(l, v, typ(t, x)) {
			goesDown(t, l, v, typ(t, x))
			seen[x]++
		}
	}
	if len(seen) < 9 {
		t.Errorf("values of too few types were tried: %v", seen)
	}
	goesDown(t, l, row(40), data("list"))
}

// manyWays are types that name each other in constructors of one name.
func manyWays(count int) []api.Data {
	name := func(i int) string { return "t" + strconv.Itoa(i%count) }
	var l []api.Data
	for i := range count {
		d := typed(name(i), makes("Z"+strconv.Itoa(i%2)))
		for n := range count {
			d.Cons = append(d.Cons, makes("A", data(name(n)), data(name(n+i))))
		}
		l = append(l, d)
	}
	return l
}

// allOf is the names of the types that a value is of, found from its parts up.
func allOf(l []api.Data, v api.Value) map[string]int {
	var kids []map[string]int
	for _, kid := range v.Kids {
		kids = append(kids, allOf(l, kid))
	}
	of := map[string]int{}
	for _, d := range l {
		if slices.ContainsFunc(d.Cons, func(c api.Con) bool { return c.Name == v.Name && takeAll(c.Fields, kids) }) {
			of[d.Name] = 1
		}
	}
	return of
}

func takeAll(fields []api.Type, kids []map[string]int) bool {
	for i := range min(len(fields), len(kids)) {
		if kids[i][fields[i].Name] == 0 {
			return false
		}
	}
	return len(fields) == len(kids)
}

// P8.1, 0.1: many constructors of one name, in types that name each other, around values as deep as may be
func TestOfManyWays(t *testing.T) {
	l := manyWays(12)
	seen := map[bool]int{}
	for _, leaf := range []string{"Z0", "Z1", "Z2"} {
		deep := nested(999, con(leaf), func(v api.Value) api.Value { return con("A", v, con("Z0")) })
		odd := nested(998, con(leaf), func(v api.Value) api.Value { return con("A", con("Z1"), v) })
		wide := nested(10, con(leaf), func(v api.Value) api.Value { return con("A", v, v) })
		for _, v := range []api.Value{deep, odd, wide, con("A", con("Z0"), odd), con("A", wide, deep)} {
			of := allOf(l, v)
			for _, d := range l {
				want := of[d.Name] == 1 && deepness(v) <= 1000
				if got := value.Of(l, v, data(d.Name)); got != want {
					t.Errorf("Of(.., %s, %s) = %v", short(v), d.Name, got)
				}
				seen[want]++
			}
		}
	}
	if seen[true] < 20 || seen[false] < 20 {
		t.Errorf("of %v values too few were of their types, or were not", seen)
	}
	same := []api.Data{typed("t", makes("A", data("t")), makes("A", data("t")), makes("A", pack(data("t"))), makes("Z"))}
	for leaf, want := range map[string]bool{"Z": true, "Y": false} {
		v := nested(999, con(leaf), func(v api.Value) api.Value { return con("A", v) })
		if got := value.Of(same, v, data("t")); got != want {
			t.Errorf("Of a value with two ways to be made at each depth, of %s, = %v", leaf, got)
		}
	}
	if value.Of(same, con(strings.Repeat("A", 1<<16)), data("t")) {
		t.Error("a constructor with a long name is one with a short one")
	}
}
