package ty_test

import (
	"math"
	"reflect"
	"slices"
	"testing"

	"handloom/api"
	"handloom/ty"
)

// datas wants a program's types to be right.
func datas(t *testing.T, p api.Prog) {
	t.Helper()
	if got, want := ty.Datas(p), wantDatas(p); !reflect.DeepEqual(got, want) {
		t.Fatalf("Datas(%s)\n = %s, want\n   %s", short(p), short(got), short(want))
	}
}

// P7.1: the two types that are always there, constructor by constructor, field by field
func TestTheTwo(t *testing.T) {
	l := ty.Datas(api.Prog{})
	want := []string{
		"bool = False | True",
		"act = Done | Say of int * act | Tell of bytes * act | Arm of int * int * act | Stop of int * act",
	}
	if len(l) != len(want) {
		t.Fatalf("a program without types of its own has %d: %s", len(l), short(l))
	}
	for i, d := range l {
		if spelled(d) != want[i] || d.At != (api.Pos{}) {
			t.Errorf("type %d is %q at %v, want %q at no place", i, spelled(d), d.At, want[i])
		}
	}
}

// P7.1
func TestDatas(t *testing.T) {
	for types, want := range map[string][]string{
		"":                            nil,
		"type one = A":                {"one = A"},
		"type t = A of t":             {"t = A of t"},
		"type b = Z type a = Y":       {"b = Z", "a = Y"},
		"type t = A of (int * bytes)": {"t = A of (int * bytes)"},
		"type list = Nil | Cons of int * list type tree = Leaf | Node of tree * (int * (list * bytes)) * tree": {
			"list = Nil | Cons of int * list", "tree = Leaf | Node of tree * (int * (list * bytes)) * tree"},
		"type bool = True type act = Done type bool = A": {"bool = True", "act = Done", "bool = A"},
	} {
		p := prog(t, types)
		datas(t, p)
		var got []string
		for _, d := range ty.Datas(p)[2:] {
			got = append(got, spelled(d))
		}
		if !slices.Equal(got, want) {
			t.Errorf("of %q Datas are %q, want %q", types, got, want)
		}
	}
	l := ty.Datas(prog(t, "type a = X\n type b = Y"))
	if l[2].At != place(1, 1) || l[3].At != place(2, 2) {
		t.Errorf("the places of types are %v, %v", l[2].At, l[3].At)
	}
}

// P7.1: programs of any form; 0.7: an empty list is none
func TestDatasOfAnyForm(t *testing.T) {
	s := sower(88172645463325252)
	for range 500 {
		datas(t, api.Prog{Datas: s.anyList(), Queue: s.below(40), Funs: []api.Fun{{Name: "bool"}}})
	}
	datas(t, api.Prog{Datas: []api.Data{{Cons: []api.Con{}}, {Cons: []api.Con{{Fields: []api.Type{}}, {Fields: []api.Type{{Parts: []api.Type{}}}}}}, {}}})
	datas(t, api.Prog{Datas: []api.Data{}})
}

// finds wants a name to be found where the other reading finds it.
func finds(t *testing.T, l []api.Data, name string) {
	t.Helper()
	if got, want := ty.Find(l, name), wantFind(l, name); got != want {
		t.Errorf("Find(%s, %q) = %d, want %d", short(l), name, got, want)
	}
	var got found
	got.data, got.con, got.ok = ty.Con(l, name)
	if want := wantCon(l, name); got != want {
		t.Errorf("Con(%s, %q) = %v, want %v", short(l), name, got, want)
	}
}

// P7.1
func TestFind(t *testing.T) {
	l := ty.Datas(prog(t, "type list = Nil | Cons of int * list type é = A"))
	for name, want := range map[string]int{
		"bool": 0, "act": 1, "list": 2, "é": 3, "": -1, "Nil": -1, "int": -1, "bytes": -1, "lis": -1, "list ": -1, "List": -1, "e": -1, "e\u0301": -1, "\xc3": -1,
	} {
		if got := ty.Find(l, name); got != want {
			t.Errorf("Find(%q) = %d, want %d", name, got, want)
		}
	}
	twice := list(typed("a"), typed("b"), typed("a"), typed(""), typed("b"), typed(""))
	for name, want := range map[string]int{"a": 0, "b": 1, "": 3, "c": -1} {
		if got := ty.Find(twice, name); got != want {
			t.Errorf("Find of several of the name %q = %d, want %d", name, got, want)
		}
	}
	for _, none := range [][]api.Data{nil, {}} {
		if got := ty.Find(none, ""); got != -1 {
			t.Errorf("Find in no types = %d", got)
		}
	}
}

// P7.1, and the chapter's example
func TestCon(t *testing.T) {
	l := ty.Datas(prog(t, "type list = Nil | Cons of int * list type twice = Z | Nil | Say | Z"))
	for name, want := range map[string]found{
		"False": {0, 0, true}, "True": {0, 1, true},
		"Done": {1, 0, true}, "Say": {1, 1, true}, "Tell": {1, 2, true}, "Arm": {1, 3, true}, "Stop": {1, 4, true},
		"Nil": {2, 0, true}, "Cons": {2, 1, true}, "Z": {3, 0, true},
		"": {}, "list": {}, "bool": {}, "Con": {}, "cons": {}, "Cons ": {}, "Consé": {},
	} {
		var got found
		got.data, got.con, got.ok = ty.Con(l, name)
		if got != want {
			t.Errorf("Con(%q) = %v, want %v", name, got, want)
		}
	}
	firsts := list(typed("a"), typed("b", con("X", number()), con(""), con("Y")), typed("c", con("Y"), con("X"), con("W"), con("W")))
	for name, want := range map[string]found{"X": {1, 0, true}, "": {1, 1, true}, "Y": {1, 2, true}, "W": {2, 2, true}, "b": {}} {
		var got found
		got.data, got.con, got.ok = ty.Con(firsts, name)
		if got != want {
			t.Errorf("Con of several of the name %q = %v, want %v", name, got, want)
		}
	}
	for _, none := range [][]api.Data{nil, {}, {{}}, {{Name: "X"}, {Cons: []api.Con{}}}} {
		if data, con, ok := ty.Con(none, "X"); data != 0 || con != 0 || ok {
			t.Errorf("Con where there is none = %d, %d, %v", data, con, ok)
		}
	}
}

// knows wants a type to be known, or not.
func knows(t *testing.T, want bool, l []api.Data, some ...api.Type) {
	t.Helper()
	for _, x := range some {
		if got := ty.Known(l, x); got != want || wantKnown(l, x) != want {
			t.Errorf("Known(%s, %s) = %v, want %v", short(l), short(x), got, want)
		}
	}
}

// P7.1
func TestKnown(t *testing.T) {
	l := list(typed("a"), typed("b", con("B", data("none"))), typed("a"), typed("B"))
	a, none := data("a"), data("none")
	knows(t, true, l, number(), text(), a, data("b"), data("B"), tuple(), tuple(a), tuple(a, number(), tuple(text(), tuple(a, data("b")))))
	knows(t, false, l, none, data(""), data("int"), data("bytes"), data("bool"), data("act"), data("A"), data("a "),
		tuple(none), tuple(a, none), tuple(none, a), tuple(a, tuple(a, tuple(a, none), a), a))
	knows(t, true, nil, number(), text(), tuple(), tuple(number(), text()))
	knows(t, false, nil, a, data(""), tuple(number(), a))
	knows(t, true, list(typed("")), data(""))
	knows(t, true, ty.Datas(api.Prog{}), data("bool"), data("act"))
}

// P7.1: a TyData counts wherever it stands, and nothing else does
func TestKnownOfAnyForm(t *testing.T) {
	l := list(typed("a"))
	a, none := data("a"), data("none")
	for _, kind := range []int{0, 1, 3, 4, -1, math.MaxInt, math.MinInt} {
		knows(t, true, l, api.Type{Kind: kind}, api.Type{Kind: kind, Name: "none"}, api.Type{Kind: kind, Name: "none", Parts: []api.Type{a, {Kind: kind, Name: "b"}}})
		knows(t, false, l, api.Type{Kind: kind, Name: "a", Parts: []api.Type{a, none}}, tuple(api.Type{Kind: kind, Parts: []api.Type{{Kind: kind, Parts: []api.Type{none}}}}))
	}
	knows(t, true, l, api.Type{Kind: api.TyData, Name: "a", Parts: []api.Type{a, number()}})
	knows(t, false, l, api.Type{Kind: api.TyData, Name: "a", Parts: []api.Type{a, none}}, api.Type{Kind: api.TyData, Name: "none", Parts: []api.Type{a}})
}

// P7.1: lists, names and types of any form
func TestNamesOfAnyForm(t *testing.T) {
	s := sower(2463534242)
	names := []string{"", "a", "b", "c", "d", "int", "bool", "act", "A", "B", "Say", "True", "z"}
	known := 0
	for range 3000 {
		l := s.anyList()
		for _, name := range names {
			finds(t, l, name)
		}
		x := s.anyType(names[:1+s.below(len(names))], 4)
		want := wantKnown(l, x)
		knows(t, want, l, x)
		if want {
			known++
		}
	}
	if known < 300 || known > 2700 {
		t.Errorf("of 3000 types %d were known: too few, or too many", known)
	}
}

// P7.1
func TestSame(t *testing.T) {
	a := data("a")
	l := []api.Type{
		number(), text(), a, data("b"), data(""), tuple(), tuple(a), tuple(a, a), tuple(a, a, a), tuple(a, data("b")), tuple(data("b"), a),
		tuple(tuple(a), a), tuple(a, tuple(a)), tuple(tuple(a, a)), tuple(tuple(tuple(a), number()), text()), tuple(tuple(tuple(a), number()), number()),
		tuple(tuple(tuple(a, a), number()), number()), {Kind: 4}, {Kind: -1}, {Name: "a"}, {Kind: api.TyBytes, Name: "a"}, {Kind: api.TyTuple, Name: "a"},
		{Kind: api.TyData, Name: "a", Parts: []api.Type{a}}, {Parts: []api.Type{a}}, {Kind: 4, Parts: []api.Type{a}}, {Parts: []api.Type{a, number()}},
	}
	for i, x := range l {
		for j, y := range l {
			if got := ty.Same(x, twin(y)); got != (i == j) {
				t.Errorf("Same(%s, %s) = %v", short(x), short(y), got)
			}
		}
	}
	if !ty.Same(api.Type{Parts: []api.Type{}}, number()) || !ty.Same(tuple(a, number()), tuple(a, api.Type{Parts: []api.Type{}})) {
		t.Error("an empty list is another than none")
	}
}

// P7.1: each field by itself, at each depth
func TestSameByOneField(t *testing.T) {
	seen := map[string]int{}
	s := sower(521288629)
	l := []api.Type{tuple(data("a"), tuple(number(), api.Type{Kind: api.TyTuple, Name: "a", Parts: []api.Type{data("é"), text()}}), data("b"))}
	for range 40 {
		l = append(l, s.anyType([]string{"a", "b"}, 4))
	}
	for _, x := range l {
		if !ty.Same(x, twin(x)) {
			t.Errorf("%s is not the same as itself", short(x))
		}
		changes(x, func(y api.Type, field string) {
			want := wantSame(x, y)
			if ty.Same(x, y) != want || ty.Same(y, x) != want {
				t.Errorf("Same of %s and %s, which differ in %s, is not %v", short(x), short(y), field, want)
			}
			if !want {
				seen[field]++
			}
		})
	}
	for _, field := range []string{"Type.Kind", "Type.Name", "Type.Parts"} {
		if seen[field] == 0 {
			t.Errorf("nothing was tried that differs in %s", field)
		}
	}
}
