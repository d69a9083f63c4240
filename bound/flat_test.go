package bound_test

import (
	"slices"
	"testing"

	"handloom/api"
	"handloom/bound"
	"handloom/ty"
)

func expectFlat(t *testing.T, l []api.Data, of api.Type, want bool) {
	t.Helper()
	if got := bound.Flat(l, of); got != want {
		t.Errorf("Flat(%s, %s) = %v", short(l), short(of), got)
	}
}

// P14.1: the types that are there always, and a program's
func TestFlat(t *testing.T) {
	all := ty.Datas(prog(t, house+"type unit = Unit type text = Text of bytes type one = One of color"+start))
	for _, of := range []api.Type{number(), data("bool"), data("color"), data("unit")} {
		expectFlat(t, all, of, true)
	}
	for _, of := range []api.Type{
		bytesType(), data("act"), data("list"), data("tree"), data("wrap"), data("rose"), data("roses"), data("both"), data("note"), data("text"), data("one"),
		tuple(number(), number()), tuple(data("bool"), data("color")), tuple(), tuple(number()),
		data("none"), data(""), data("int"), data("Red"), data("Bool"), data("bool\x00"),
	} {
		expectFlat(t, all, of, false)
	}
}

// P14.1: each Con of a type counts, and none of another type
func TestFlatByEachCon(t *testing.T) {
	l := []api.Data{{Name: "a", Cons: make([]api.Con, 16)}, {Name: "b", Cons: []api.Con{{Name: "B", Fields: []api.Type{number()}}}}, {Name: "c", Cons: make([]api.Con, 3)}}
	expectFlat(t, l, data("a"), true)
	expectFlat(t, l, data("b"), false)
	expectFlat(t, l, data("c"), true)
	for at := range l[0].Cons {
		l[0].Cons[at].Fields = make([]api.Type, 1+at%6)
		expectFlat(t, l, data("a"), false)
		expectFlat(t, l, data("c"), true)
		l[0].Cons[at].Fields = nil
	}
	l[0].Cons[3].Fields = []api.Type{}
	expectFlat(t, l, data("a"), true)
}

// P14.1: of two of one Name the first one, as ty.Find finds it
func TestFlatOfTwo(t *testing.T) {
	flat := api.Data{Name: "a", Cons: []api.Con{{Name: "A"}}}
	other := api.Data{Name: "a", Cons: []api.Con{{Name: "B", Fields: []api.Type{number()}}}}
	expectFlat(t, []api.Data{flat, other}, data("a"), true)
	expectFlat(t, []api.Data{other, flat}, data("a"), false)
	expectFlat(t, []api.Data{flat, other, flat}, data("a"), true)
}

// P14.1, 0.1: what can't be; a type's Kind says what it is, whatever else it has
func TestFlatOfAny(t *testing.T) {
	full := []api.Type{bytesType(), data("list")}
	for _, l := range [][]api.Data{nil, {}, {{}}, {{Name: "a"}}, {{Name: "a", Cons: []api.Con{}}}} {
		expectFlat(t, l, number(), true)
		expectFlat(t, l, api.Type{Name: "list", Parts: full}, true)
		expectFlat(t, l, bytesType(), false)
		expectFlat(t, l, api.Type{Kind: api.TyBytes, Name: "a"}, false)
		expectFlat(t, l, api.Type{Kind: api.TyTuple, Name: "a", Parts: full}, false)
		expectFlat(t, l, api.Type{Kind: -1, Name: "a"}, false)
		expectFlat(t, l, api.Type{Kind: 4, Name: "a"}, false)
		// a type without Cons has none with Fields
		is := slices.ContainsFunc(l, func(d api.Data) bool { return d.Name == "a" })
		expectFlat(t, l, data("a"), is)
		expectFlat(t, l, api.Type{Kind: api.TyData, Name: "a", Parts: full}, is)
		expectFlat(t, l, data("b"), false)
	}
	expectFlat(t, []api.Data{{}}, data(""), true)
	s := sower(2463534242)
	seen := map[bool]int{}
	for range 20000 {
		l, of := some(s.below(4), s.anyData), s.anyType(2)
		want := wantFlat(l, of)
		expectFlat(t, l, of, want)
		seen[want]++
	}
	if seen[true] < 3000 || seen[false] < 4000 {
		t.Errorf("%v: too few of a sort", seen)
	}
}
