package ty_test

import (
	"reflect"
	"slices"
	"strconv"
	"testing"

	"handloom/api"
	"handloom/ast"
	"handloom/ty"
)

// progs are programs of all sorts, fit ones and others, with empty lists, too.
func progs(t *testing.T) []api.Prog {
	s := sower(362436069)
	l := []api.Prog{{}, {Datas: []api.Data{}}, {Datas: []api.Data{{Cons: []api.Con{{Fields: []api.Type{{Parts: []api.Type{}}}}}}}},
		prog(t, "type t = A of t"), prog(t, "type list = Nil | Cons of int * (bytes * list) type t = A | A type u = B of none")}
	for range 50 {
		l = append(l, api.Prog{Datas: s.anyList()}, api.Prog{Queue: 1, Datas: s.fitTypes(sorts{true, true, true}, 0, s.below(6))})
	}
	return l
}

// askAll makes each call, of a program's types, and of each type in it.
func askAll(p api.Prog) {
	ty.Datas(p)
	ty.Check(p)
	ty.Full(p.Datas)
	for _, d := range p.Datas {
		ty.Find(p.Datas, d.Name)
		for _, c := range d.Cons {
			ty.Con(p.Datas, c.Name)
			for _, f := range c.Fields {
				ty.Known(p.Datas, f)
				ty.Same(f, f)
			}
		}
	}
}

// 0.5: what is given is not changed
func TestNothingIsChanged(t *testing.T) {
	for _, p := range progs(t) {
		p.Datas = append(make([]api.Data, 0, len(p.Datas)+9), p.Datas...) // with room behind, in which nothing may be laid
		room := p.Datas[:cap(p.Datas)]
		was, all := twin(p), twin(room)
		askAll(p)
		if !reflect.DeepEqual(p, was) || !reflect.DeepEqual(room, all) {
			t.Fatalf("%s was changed to %s", short(was), short(p))
		}
	}
}

// room is memory that a list has: where it begins, and where it ends.
type room struct{ from, to uintptr }

// rooms is that of all lists in something.
func rooms(v reflect.Value, l []room) []room {
	switch v.Kind() {
	case reflect.Struct:
		for i := range v.NumField() {
			l = rooms(v.Field(i), l)
		}
	case reflect.Slice:
		if size := uintptr(v.Cap()) * v.Type().Elem().Size(); size > 0 {
			l = append(l, room{v.Pointer(), v.Pointer() + size})
		}
		for i := range v.Len() {
			l = rooms(v.Index(i), l)
		}
	}
	return l
}

// 0.5: what Datas tells is new memory, and no two of its lists share any
func TestDatasShareNothing(t *testing.T) {
	for _, p := range progs(t) {
		p = twin(p) // what is given may share memory within itself
		first, second := ty.Datas(p), ty.Datas(p)
		l := rooms(reflect.ValueOf(p), nil)
		l = rooms(reflect.ValueOf(second), rooms(reflect.ValueOf(first), l))
		slices.SortFunc(l, func(a, b room) int { return int(a.from) - int(b.from) })
		for i := range len(l) - 1 {
			if l[i].to > l[i+1].from {
				t.Fatalf("Datas(%s) shares memory", short(p))
			}
		}
	}
}

// 0.5: what is done with an answer is not to be seen in another
func TestAnswersAreTheirOwn(t *testing.T) {
	p := prog(t, "type t = A of (int * t) | B")
	was := twin(p)
	for range 2 {
		l := ty.Datas(p)
		full := ty.Full(l)
		datas(t, p)
		fullAre(t, ty.Datas(p), true, true, true)
		full[0], full[2] = false, false
		for i := range l {
			l[i].Name = "spoilt"
			for n := range l[i].Cons {
				l[i].Cons[n].Name = "Spoilt"
				for k := range l[i].Cons[n].Fields {
					l[i].Cons[n].Fields[k] = api.Type{Kind: 9}
				}
			}
		}
	}
	if !reflect.DeepEqual(p, was) {
		t.Errorf("a program was changed to %s", short(p))
	}
	p.Datas[0].Cons[0].Fields[0].Parts[0] = data("none")
	checks(t, p, api.ErrName, place(1, 1))
}

const many = 1 << 16

// nested is a type so deep, with parts of any kind around it.
func nested(depth, kind int, inner api.Type) api.Type {
	for range depth {
		inner = api.Type{Kind: kind, Parts: []api.Type{inner}}
	}
	return inner
}

// 0.1: as many parts within one another as may be
func TestDeepTypes(t *testing.T) {
	for _, kind := range []int{api.TyTuple, api.TyInt, 7} {
		a, b := nested(many, kind, data("a")), nested(many, kind, data("b"))
		l := list(typed("a", con("A")), typed("it", con("It", a)), typed("other", con("Other", b)))
		if !ty.Same(a, a) || ty.Same(a, b) || ty.Same(b, nested(many-1, kind, data("b"))) {
			t.Errorf("deep types of the kind %d: the same as others, or not as themselves", kind)
		}
		if !ty.Known(l, a) || ty.Known(l, b) {
			t.Errorf("deep types of the kind %d: known, or not, as they should not be", kind)
		}
		want := []bool{true, kind != 7, kind == api.TyInt}
		if got := ty.Full(l); !slices.Equal(got, want) {
			t.Errorf("Full of deep types of the kind %d = %v", kind, got)
		}
		p := api.Prog{Queue: 1, Datas: l}
		got := ty.Datas(p)
		if len(got) != 5 || !ty.Same(got[3].Cons[0].Fields[0], a) || !ty.Same(got[4].Cons[0].Fields[0], b) {
			t.Errorf("Datas of deep types of the kind %d are others", kind)
		}
		if f := ty.Check(p); f != (api.Fault{Err: api.ErrForm}) {
			t.Errorf("Check of deep types of the kind %d = %v", kind, f)
		}
	}
}

// P7.3: types as deep as may be, and one deeper
func TestCheckOfDepth(t *testing.T) {
	for name, want := range map[string]api.Errno{"a": api.OK, "none": api.ErrName, "it": api.ErrEmpty} {
		deep := data(name)
		for range api.MaxDepth - 1 {
			deep = tuple(number(), deep)
		}
		p := api.Prog{Queue: 1, Datas: list(typed("a", con("A")), api.Data{At: place(3, 4), Name: "it", Cons: []api.Con{con("It", deep)}})}
		at := place(3, 4)
		if want == api.OK {
			at = api.Pos{}
		}
		checks(t, p, want, at)
		p.Datas[1].Cons[0].Fields[0] = tuple(number(), deep)
		checks(t, p, api.ErrForm, api.Pos{})
	}
}

// 0.1: rows of as many types as may be, each of which needs the one behind it, or the one ahead of it
func TestLongRows(t *testing.T) {
	const long = many / 3
	for _, full := range []bool{true, false} {
		row := list()
		for i := range long {
			row = append(row, typed("t"+strconv.Itoa(i), con("A"+strconv.Itoa(i), data("t"+strconv.Itoa(i+1)))))
		}
		if full {
			row[long-1].Cons[0].Fields = nil
		}
		for range 2 {
			if got := ty.Full(row); len(got) != long || slices.Contains(got, !full) {
				t.Errorf("a row of types: %d, not all %v", len(got), full)
			}
			slices.Reverse(row)
		}
		name := "t" + strconv.Itoa(long-1)
		if ty.Find(row, name) != long-1 || ty.Find(row, "t") != -1 || !ty.Known(row, tuple(data(name))) || ty.Known(row, tuple(data("t"))) {
			t.Error("in a row of types the last one is not found, or another is")
		}
		if data, con, ok := ty.Con(row, "A"+strconv.Itoa(long-1)); data != long-1 || con != 0 || !ok {
			t.Errorf("in a row of types the last constructor is at %d %d %v", data, con, ok)
		}
		p := api.Prog{Queue: 1, Datas: row}
		if got := ty.Datas(p); len(got) != long+2 || !ast.Same(api.Prog{Datas: got[2:]}, api.Prog{Datas: row}) {
			t.Error("Datas of a row of types are others")
		}
		if f := ty.Check(p); f != (api.Fault{Err: api.ErrForm}) {
			t.Errorf("Check of too many types = %v", f)
		}
	}
}

// 0.1: as many constructors, fields, parts beside one another as may be
func TestWideTypes(t *testing.T) {
	var cons []api.Con
	for i := range many {
		cons = append(cons, con("A"+strconv.Itoa(i), data("t")))
	}
	parts := slices.Repeat([]api.Type{data("t")}, many)
	l := list(typed("t", cons...), typed("u", con("U", parts...)), typed("v", con("V", tuple(parts...))))
	if got := ty.Full(l); !slices.Equal(got, []bool{false, false, false}) {
		t.Errorf("Full of wide types = %v", got)
	}
	l[0].Cons[many-1].Fields = nil
	if got := ty.Full(l); !slices.Equal(got, []bool{true, true, true}) {
		t.Errorf("Full of wide types with values = %v", got)
	}
	if data, con, ok := ty.Con(l, "A65535"); data != 0 || con != many-1 || !ok {
		t.Errorf("the last of many constructors is at %d %d %v", data, con, ok)
	}
	wide := tuple(parts...)
	other := twin(wide)
	other.Parts[many-1].Name = "w"
	if !ty.Same(wide, twin(wide)) || ty.Same(wide, other) || !ty.Known(l, wide) || ty.Known(l, other) {
		t.Error("wide types: the same as others, or not known, or known")
	}
	l[2].Cons[0].Fields[0] = other
	if got := ty.Full(l); !slices.Equal(got, []bool{true, true, false}) {
		t.Errorf("Full of a wide type with an unknown part = %v", got)
	}
}
