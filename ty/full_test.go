package ty_test

import (
	"reflect"
	"slices"
	"strconv"
	"testing"

	"handloom/api"
	"handloom/ty"
)

// fullAre wants types to have values, or not, one by one; both readings must tell so.
func fullAre(t *testing.T, l []api.Data, want ...bool) {
	t.Helper()
	if got := ty.Full(l); !slices.Equal(got, want) || !slices.Equal(wantFull(l), want) {
		t.Errorf("Full(%s) = %v, want %v", short(l), got, want)
	}
}

// P7.2: types that may be declared
func TestFull(t *testing.T) {
	for types, want := range map[string][]bool{
		"type t = A":          {true},
		"type t = A of int":   {true},
		"type t = A of bytes": {true},
		"type t = A of (int * (bytes * int)) * int": {true},
		"type t = A of t":                                                {false},
		"type t = A of t | B":                                            {true},
		"type t = A of t * t | B of t * t":                               {false},
		"type t = A of t | B of int * t | C of int":                      {true},
		"type t = A of (int * t)":                                        {false},
		"type t = A of (int * (bytes * t))":                              {false},
		"type t = A of (int * (bytes * t)) | B":                          {true},
		"type t = A of int * bytes * t":                                  {false},
		"type t = A of u type u = B of t":                                {false, false},
		"type t = A of u type u = B of t | C":                            {true, true},
		"type t = A of u | D type u = B of t":                            {true, true},
		"type t = A of u type u = B of u":                                {false, false},
		"type t = A of u type u = B of v type v = C":                     {true, true, true},
		"type t = C type u = B of t type v = A of u":                     {true, true, true},
		"type t = A of u * v type u = B of v type v = C of u | D of int": {true, true, true},
		"type t = A of u * v type u = B type v = C of v":                 {false, true, false},
		"type t = A of (u * v) type u = B type v = C of v":               {false, true, false},
		"type t = A of u | B of v type u = C of v type v = D of u":       {false, false, false},
		"type t = A of none":                                             {false},
		"type t = A of none | B":                                         {true},
		"type t = A of bool * act":                                       {false},
		"type t = A of int * none | B of none * int":                     {false},
		"type list = Nil | Cons of int * list type tree = Leaf | Node of tree * (int * list) * tree": {true, true},
	} {
		fullAre(t, prog(t, types).Datas, want...)
	}
}

// P7.2: with the two types that are always there
func TestFullOfAllTypes(t *testing.T) {
	fullAre(t, ty.Datas(api.Prog{}), true, true)
	fullAre(t, ty.Datas(prog(t, "type t = A of bool * act type u = B of u * act")), true, true, true, false)
}

// P7.2: lists of any form
func TestFullByHand(t *testing.T) {
	a, none := data("a"), data("none")
	fullAre(t, nil)
	fullAre(t, list())
	fullAre(t, list(typed("a"), typed("b", []api.Con{}...), api.Data{}), false, false, false)
	fullAre(t, list(typed("", con(""))), true)
	fullAre(t, list(typed("a", con("A", tuple()))), true)
	fullAre(t, list(typed("a", con("A", tuple(tuple(), number())))), true)
	fullAre(t, list(typed("a", con("A", tuple(number(), none)))), false)
	fullAre(t, list(typed("a", con("A", data("")))), false)
	fullAre(t, list(typed("", con("A", data("")))), false)
	fullAre(t, list(typed("", con("A", data("")), con("B"))), true)
	fullAre(t, list(typed("a", con("A")), typed("b", con("B", a, none))), true, false)
	fullAre(t, list(typed("a", con("A")), typed("b", con("B", none, a))), true, false)
	for _, kind := range []int{4, -1, 99} {
		strange := api.Type{Kind: kind, Name: "a", Parts: []api.Type{number()}}
		fullAre(t, list(typed("a", con("A")), typed("b", con("B", strange)), typed("c", con("C", strange), con("D")), typed("d", con("D", tuple(number(), strange)))),
			true, false, true, false)
	}
	odd := list(
		typed("a", con("A")), typed("b", con("B", api.Type{Name: "none", Parts: []api.Type{none}})), typed("c", con("C", api.Type{Kind: api.TyBytes, Parts: []api.Type{none}})),
		typed("d", con("D", api.Type{Kind: api.TyData, Name: "a", Parts: []api.Type{none}})), typed("e", con("E", api.Type{Kind: api.TyTuple, Name: "none", Parts: []api.Type{a}})))
	fullAre(t, odd, true, true, true, true, true)
}

// P7.2: a name that stands there several times is that of the first
func TestFullOfNamesTwice(t *testing.T) {
	a, b := data("a"), data("b")
	fullAre(t, list(typed("a", con("A", a)), typed("a", con("A")), typed("b", con("B", a))), false, true, false)
	fullAre(t, list(typed("a", con("A")), typed("a", con("A", a)), typed("b", con("B", a))), true, true, true)
	fullAre(t, list(typed("b", con("B", a)), typed("a", con("A", b)), typed("a", con("A"))), false, false, true)
	fullAre(t, list(typed("b", con("B", a)), typed("a", con("A")), typed("a", con("A", b, a)), typed("a", con("A", data("c")))), true, true, true, false)
	fullAre(t, list(typed("a", con("A", b)), typed("b", con("A", a), con("A")), typed("b"), typed("b", con("A", b))), true, true, false, true)
	fullAre(t, list(typed("a"), typed("a", con("A", a)), typed("a", con("A", number()))), false, false, true)
}

// fullIs wants Full to be as values are found, step by step, and those that are found to be of their types.
func fullIs(t *testing.T, l []api.Data) []bool {
	t.Helper()
	got, made := ty.Full(l), grown(l)
	if len(got) != len(l) {
		t.Fatalf("Full(%s) has %d", short(l), len(got))
	}
	for at, full := range got {
		if full != (len(made[at]) > 0) {
			t.Fatalf("Full(%s) = %v at %d, by values it is %v", short(l), full, at, !full)
		}
		if full && len(l) < 5 && !isMade(l, l[at], made[at][0]) {
			t.Fatalf("of %s, type %d, the value %s was made", short(l), at, short(made[at]))
		}
	}
	return got
}

// P7.4: by values made larger, of lists of any form
func TestFullByValues(t *testing.T) {
	s := sower(88675123)
	with, without, both := 0, 0, 0
	for range 5000 {
		l := s.anyList()
		full := fullIs(t, l)
		fullIs(t, ty.Datas(api.Prog{Datas: l}))
		has, hasNot := slices.Contains(full, true), slices.Contains(full, false)
		switch {
		case has && hasNot:
			both++
		case has:
			with++
		case hasNot:
			without++
		}
	}
	if with < 100 || without < 100 || both < 100 {
		t.Errorf("lists of types with values: %d, without: %d, of both: %d: too few", with, without, both)
	}
	for range 3000 {
		l := s.fitTypes(sorts{twice: true, unknown: true, empty: true}, 0, 1+s.below(8))
		fullIs(t, l)
		fullIs(t, ty.Datas(api.Prog{Datas: l}))
	}
}

// P7.4: a row of types, each of which needs the one behind it, or the one ahead of it
func TestFullOfRows(t *testing.T) {
	for _, last := range []bool{true, false} {
		var row []api.Data
		for i := range 200 {
			row = append(row, typed("t"+strconv.Itoa(i), con("A", number(), tuple(text(), data("t"+strconv.Itoa(i+1))))))
		}
		end := typed("t200", con("B", data("t0")))
		if last {
			end.Cons = append(end.Cons, con("C"))
		}
		row = append(row, end)
		want := slices.Repeat([]bool{last}, len(row))
		fullAre(t, row, want...)
		slices.Reverse(row)
		fullAre(t, row, want...)
	}
}

// P7.4: types that are put behind change nothing of those ahead, if all names ahead are found there, and none stands twice
func TestMoreTypesBehind(t *testing.T) {
	s := sower(5783321)
	mixed := 0
	for range 2000 {
		ahead := ty.Datas(api.Prog{Datas: s.fitTypes(sorts{empty: true}, 0, s.below(6))})
		behind := s.fitTypes(sorts{unknown: true, empty: true}, 100, 1+s.below(6))
		for i := range behind { // some need those ahead, too
			behind[i].Cons = append(behind[i].Cons, con("D"+strconv.Itoa(i), data(pick(&s, ahead).Name), data(pick(&s, behind).Name)))
		}
		all := slices.Concat(ahead, behind)
		was, is := ty.Full(ahead), ty.Full(all)
		if !slices.Equal(was, is[:len(ahead)]) {
			t.Fatalf("%s are %v; with %s behind them %v", short(ahead), was, short(behind), is)
		}
		if slices.Contains(was, false) && slices.Contains(is[len(ahead):], true) {
			mixed++
		}
		for at, d := range ahead {
			if ty.Find(all, d.Name) != at || !ty.Known(all, tuple(data(d.Name))) {
				t.Fatalf("%s: type %d is found elsewhere, or not known, with more behind", short(all), at)
			}
			for n, c := range d.Cons {
				if data, con, ok := ty.Con(all, c.Name); data != at || con != n || !ok {
					t.Fatalf("%s: constructor %d of type %d is found elsewhere with more behind", short(all), n, at)
				}
			}
		}
	}
	if mixed < 100 {
		t.Errorf("%d lists had types without values ahead of others with some: too few", mixed)
	}
}

// P7.2: a name that is found nowhere ahead may be found behind: then the type behind counts
func TestNamesFoundBehind(t *testing.T) {
	ahead := list(typed("a", con("A", data("b"))))
	fullAre(t, ahead, false)
	fullAre(t, append(ahead, typed("b", con("B"))), true, true)
	fullAre(t, append(ahead, typed("b", con("B", data("a")))), false, false)
}

// P7.4: a type of any form has values just if a type made of it alone has
func TestFullOfFields(t *testing.T) {
	l := ty.Datas(prog(t, "type full = A type none = B of none"))
	full, none := data("full"), data("none")
	for _, has := range []api.Type{number(), text(), full, data("bool"), data("act"), tuple(full, number()), tuple(tuple(full, data("act")), text())} {
		fullAre(t, append(twin(l), typed("it", con("It", has))), true, true, true, false, true)
		fullAre(t, append(twin(l), typed("it", con("It", number(), has, text(), has))), true, true, true, false, true)
	}
	for _, hasNot := range []api.Type{none, data("no"), tuple(none, full), tuple(full, none), tuple(full, tuple(number(), none)), {Kind: 5}, data("it")} {
		fullAre(t, append(twin(l), typed("it", con("It", hasNot))), true, true, true, false, false)
		fullAre(t, append(twin(l), typed("it", con("It", number(), full), con("Un", hasNot))), true, true, true, false, true)
		fullAre(t, append(twin(l), typed("it", con("It", number(), hasNot, full))), true, true, true, false, false)
	}
}

// 0.7: of no types nothing is told
func TestFullOfNothing(t *testing.T) {
	for _, none := range [][]api.Data{nil, {}} {
		if got := ty.Full(none); !reflect.DeepEqual(got, []bool(nil)) {
			t.Errorf("Full of no types = %#v", got)
		}
	}
}
