package check_test

import (
	"reflect"
	"slices"
	"strings"
	"testing"

	"handloom/api"
	"handloom/ast"
	"handloom/check"
	"handloom/ty"
	"handloom/value"
)

// bindsAre holds what Binds tells against the second reading, and is it.
func bindsAre(t *testing.T, l []api.Data, p api.Pat, of api.Type) ([]api.Param, api.Fault) {
	t.Helper()
	got, fault := check.Binds(l, p, of)
	want, wantFault := wantBinds(l, p, of)
	if !reflect.DeepEqual(got, want) || fault != wantFault {
		t.Fatalf("Binds(%s, %s, %s)\n = %s, %v, want\n   %s, %v", short(l), short(p), short(of), short(got), fault, short(want), wantFault)
	}
	return got, fault
}

// binds wants a pattern to give names, with their types.
func binds(t *testing.T, of, src, names string) {
	t.Helper()
	got, fault := bindsAre(t, ty.Datas(home(t)), pat(t, src), typeOf(t, of))
	if want := params(t, names); fault != (api.Fault{}) || spelledAll(got) != spelledAll(want) {
		t.Errorf("of %s the pattern %s gives %s, %v, want %s", of, src, spelledAll(got), fault, spelledAll(want))
	}
}

// bindsNot wants a pattern to have a fault at a column.
func bindsNot(t *testing.T, of, src string, err api.Errno, col int) {
	t.Helper()
	got, fault := bindsAre(t, ty.Datas(home(t)), pat(t, src), typeOf(t, of))
	if want := (api.Fault{Err: err, At: place(2, col)}); got != nil || fault != want {
		t.Errorf("of %s the pattern %s gives %s, %v, want %v", of, src, spelledAll(got), fault, want)
	}
}

// P9.1: patterns of each kind, in one another
func TestBinds(t *testing.T) {
	for _, of := range []string{"int", "bytes", "bool", "list", "none", "(int * bytes)", "(list * (none * bytes))"} {
		binds(t, of, "_", "")
		binds(t, of, "x", "x : "+of)
		binds(t, of, "é_1", "é_1 : "+of)
	}
	for _, num := range []string{"0", "7", "~ 1", "4611686018427387903", "~ 4611686018427387903"} {
		binds(t, "int", num, "")
	}
	binds(t, "bool", "True", "")
	binds(t, "act", "Done", "")
	binds(t, "list", "Nil", "")
	binds(t, "list", "Cons(1, _)", "")
	binds(t, "list", "Cons(x, r)", "x : int, r : list")
	binds(t, "list", "Cons(x, Cons(y, Cons(z, Nil)))", "x : int, y : int, z : int")
	binds(t, "act", "Tell(b, Arm(i, k, Say(n, Stop(m, a))))", "b : bytes, i : int, k : int, n : int, m : int, a : act")
	binds(t, "tree", "Node(Node(a, b, c), (n, s), d)", "a : tree, b : (int * bytes), c : tree, n : int, s : bytes, d : tree")
	binds(t, "one", "One(one)", "one : bytes")
	binds(t, "six", "Six(a, b, c, d, e, f)", "a : int, b : bytes, c : list, d : tree, e : one, f : (int * bool)")
	binds(t, "six", "Six(f, e, d, c, b, (a, True))", "f : int, e : bytes, d : list, c : tree, b : one, a : int")
	binds(t, "(int * bytes)", "(y, x)", "y : int, x : bytes")
	binds(t, "(int * (bytes * list) * bool)", "(1, (b, Cons(x, _)), False)", "b : bytes, x : int")
	binds(t, "(int * int * int * int * int * int)", "(f, e, d, c, b, a)", "f : int, e : int, d : int, c : int, b : int, a : int")
	binds(t, "((int * bytes) * (int * none))", "(x, (_, y))", "x : (int * bytes), y : none")
}

// P9.1: what no pattern of its kind takes
func TestBindsType(t *testing.T) {
	all := map[string][]string{
		"1":            {"bytes", "bool", "list", "none", "(int * int)"},
		"True":         {"int", "bytes", "act", "list", "none", "(bool * bool)"},
		"Done":         {"bool", "list"},
		"Nil":          {"int", "bytes", "bool", "tree", "none", "(int * list)"},
		"Cons(x, r)":   {"int", "(int * list)", "tree", "act"},
		"(x, y)":       {"int", "bytes", "list", "bool", "none", "(int * int * int)"},
		"(x, y, z)":    {"int", "(int * bytes)", "((int * int) * int)", "(int * int * int * int)"},
		"(_, (_, _))":  {"int", "(int * bytes * int)"},
		"(Nil, Leaf)":  {"list", "tree"},
		"One(1, 2, 3)": {"int", "list"}, // ahead of the number of its parts
	}
	for src, types := range all {
		for _, of := range types {
			bindsNot(t, of, src, api.ErrType, 1)
		}
	}
	bindsNot(t, "(int * bytes)", "(x, 1)", api.ErrType, 5)
	bindsNot(t, "(int * bytes)", "(Nil, 1)", api.ErrType, 2)
	bindsNot(t, "list", "Cons(x, 1)", api.ErrType, 9)
	bindsNot(t, "list", "Cons(Nil, Nil)", api.ErrType, 6)
	bindsNot(t, "list", "Cons(_, Cons(_, Cons(_, Leaf)))", api.ErrType, 25)
	bindsNot(t, "tree", "Node(Leaf, (1, 2), Leaf)", api.ErrType, 16)
	bindsNot(t, "tree", "Node(Leaf, (1, _, _), Leaf)", api.ErrType, 12)
	bindsNot(t, "six", "Six(_, _, _, _, _, (_, Nil))", api.ErrType, 24)
}

// P9.1: a constructor that there is none of, one part more or fewer
func TestBindsNameAndCount(t *testing.T) {
	for _, of := range []string{"int", "list", "none", "(int * int)"} {
		bindsNot(t, of, "None", api.ErrName, 1)
		bindsNot(t, of, "None(1, x, x)", api.ErrName, 1)
		bindsNot(t, "(int * "+of+")", "(_, Const)", api.ErrName, 5)
	}
	bindsNot(t, "list", "Nil(x)", api.ErrCount, 1)
	bindsNot(t, "list", "Nil(1, 2, 3, 4, 5, 6)", api.ErrCount, 1)
	bindsNot(t, "list", "Cons", api.ErrCount, 1)
	bindsNot(t, "list", "Cons(x)", api.ErrCount, 1)
	bindsNot(t, "list", "Cons(x, y, z)", api.ErrCount, 1)
	bindsNot(t, "list", "Cons(Leaf, None, x)", api.ErrCount, 1) // ahead of its parts
	bindsNot(t, "bool", "True(None)", api.ErrCount, 1)
	bindsNot(t, "act", "Arm(1, 2)", api.ErrCount, 1)
	bindsNot(t, "six", "Six(_, _, _, _, _)", api.ErrCount, 1)
	bindsNot(t, "list", "Cons(x, Cons(y))", api.ErrCount, 9)
	bindsNot(t, "(list * list)", "(Nil, Nil(_))", api.ErrCount, 7)
}

// P9.1: a second PtVar of one name, in the whole pattern
func TestBindsTwice(t *testing.T) {
	bindsNot(t, "(int * int)", "(x, x)", api.ErrTwice, 5)
	bindsNot(t, "(int * bytes * int)", "(x, y, x)", api.ErrTwice, 8)
	bindsNot(t, "(int * int * int)", "(x, x, x)", api.ErrTwice, 5)
	bindsNot(t, "(int * int * int * int)", "(x, y, y, x)", api.ErrTwice, 8)
	bindsNot(t, "list", "Cons(x, x)", api.ErrTwice, 9)
	bindsNot(t, "list", "Cons(x, Cons(y, Cons(x, r)))", api.ErrTwice, 22)
	bindsNot(t, "((int * int) * (int * list))", "((a, b), (c, Cons(_, a)))", api.ErrTwice, 22)
	bindsNot(t, "(int * (int * int))", "(x, (y, x))", api.ErrTwice, 9)
	bindsNot(t, "((int * int) * int)", "((y, x), x)", api.ErrTwice, 10)
	binds(t, "(int * int * int)", "(_, x, _)", "x : int")
}

// P9.1: several faults at once: the first one from the left is told
func TestBindsFirst(t *testing.T) {
	bindsNot(t, "(int * bytes * int)", "(x, 1, x)", api.ErrType, 5)
	bindsNot(t, "(int * int * bytes)", "(x, x, 1)", api.ErrTwice, 5)
	bindsNot(t, "(int * list * int)", "(x, None, x)", api.ErrName, 5)
	bindsNot(t, "(int * int * list)", "(x, x, None)", api.ErrTwice, 5)
	bindsNot(t, "(list * int * int)", "(Cons(1), x, x)", api.ErrCount, 2)
	bindsNot(t, "(list * list)", "(Cons(1, 2), None)", api.ErrType, 10)
	bindsNot(t, "(list * list)", "(Cons(1, Nil), Nil(None))", api.ErrCount, 16)
	bindsNot(t, "(list * tree)", "(Leaf, Nil)", api.ErrType, 2)
	bindsNot(t, "(int * int)", "(x, x, x)", api.ErrType, 1)
	bindsNot(t, "list", "None(x, x)", api.ErrName, 1)
}

// P9.1: what is not fit
func TestBindsForm(t *testing.T) {
	l := ty.Datas(home(t))
	for _, p := range []api.Pat{
		{Kind: 5}, {Kind: -1}, {Kind: api.PtVar}, {Name: "x"}, {Num: 1}, {Kids: []api.Pat{{}}}, varPat("X"), varPat("state"), varPat("in"), varPat(strings.Repeat("x", 25)),
		numPat(most + 1), numPat(-most - 1), {Kind: api.PtInt, Name: "x"}, {Kind: api.PtVar, Name: "x", Num: 1}, {Kind: api.PtVar, Name: "x", Kids: []api.Pat{{}}},
		conPat("cons"), conPat(""), conPat("True", make([]api.Pat, 7)...), {Kind: api.PtCon, Name: "True", Num: 1},
		rowPat(), rowPat(api.Pat{}), rowPat(make([]api.Pat, 7)...), {Kind: api.PtTuple, Name: "X", Kids: make([]api.Pat, 2)},
		rowPat(api.Pat{}, varPat("X")), conPat("Cons", varPat("x"), varPat("")),
		rowPat(varPat("x"), varPat("x"), conPat("None"), rowPat()), // ahead of all else
		nested(64, api.Pat{}, func(p api.Pat) api.Pat { return conPat("One", p) }),
	} {
		for _, of := range []api.Type{number(), data("list"), data("none"), tuple(number(), number()), {Kind: 9}} {
			for _, p := range []api.Pat{p, numbered(p)} {
				got, fault := bindsAre(t, l, p, of)
				if got != nil || fault != (api.Fault{Err: api.ErrForm}) {
					t.Errorf("Binds of %s = %s, %v, want a fault of its form", short(p), short(got), fault)
				}
			}
		}
	}
	deep := numbered(nested(63, varPat("x"), func(p api.Pat) api.Pat { return rowPat(p, api.Pat{}) }))
	of := nested(63, text(), func(of api.Type) api.Type { return tuple(of, number()) })
	if got, fault := bindsAre(t, l, deep, of); fault != (api.Fault{}) || spelledAll(got) != `"x" : bytes` {
		t.Errorf("Binds of a deep pattern = %s, %v", short(got), fault)
	}
}

// P9.1: lists of types, and types, of any form
func TestBindsOfAnyForm(t *testing.T) {
	any := api.Type{Kind: 7, Name: "x", Parts: []api.Type{{Kind: -1, Parts: []api.Type{}}}}
	for _, of := range []api.Type{any, {}, {Kind: api.TyTuple}, {Kind: api.TyData}, {Parts: []api.Type{}}} {
		for _, l := range [][]api.Data{nil, {}, {{}}, ty.Datas(api.Prog{})} {
			for _, p := range []api.Pat{{}, varPat("x"), numPat(1), conPat("True"), conPat("Say", api.Pat{}, varPat("x")), rowPat(varPat("x"), varPat("y"))} {
				bindsAre(t, l, numbered(p), of)
			}
		}
	}
	l := []api.Data{typed("a", con("A", any), con("B")), typed("b", con("B", number()), con("C")), typed("a", con("D"), con("A"))}
	for _, p := range []api.Pat{
		conPat("A", varPat("x")), conPat("A"), conPat("B"), conPat("B", varPat("x")), conPat("C"), conPat("D"), conPat("A", numPat(1)), conPat("A", rowPat(api.Pat{}, api.Pat{})),
	} {
		for _, of := range []api.Type{data("a"), data("b"), data("c"), data(""), {Kind: api.TyData, Name: "a", Parts: []api.Type{number()}}, {Name: "a"}, {Kind: api.TyInt, Name: "b"}} {
			bindsAre(t, l, numbered(p), of)
		}
	}
}

// P9.1: patterns that look like chance, most of them right, of types that may be declared
func TestBindsOfMany(t *testing.T) {
	s := sower(88172645463325252)
	m := maker{sower: &s, all: ty.Datas(home(t))}
	seen := map[api.Errno]int{}
	for i := range 60000 {
		m.slip = []int{0, 3, 5, 12}[i%4]
		of := m.aType()
		_, fault := bindsAre(t, m.all, numbered(m.pat(of, 4, map[string]int{})), of)
		if m.slip == 0 && fault != (api.Fault{}) {
			t.Fatalf("a pattern that is right has the fault %v", fault)
		}
		seen[fault.Err]++
	}
	for _, err := range []api.Errno{api.OK, api.ErrForm, api.ErrName, api.ErrType, api.ErrCount, api.ErrTwice} {
		if seen[err] < 100 {
			t.Errorf("%d patterns had the fault %d: too few", seen[err], err)
		}
	}
}

// P9.1: patterns, and lists of types of any form
func TestBindsOfAnyTypes(t *testing.T) {
	s := sower(362436069)
	names, cons := []string{"a", "b", "c", "int", ""}, []string{"A", "B", "C", "D", "E", "F", "G", ""}
	seen := map[api.Errno]int{}
	for range 30000 {
		l := s.anyTypes(names, cons)
		of := s.anyType(names, 3)
		_, fault := bindsAre(t, l, numbered(s.anyPat(cons, of, l, 4)), of)
		seen[fault.Err]++
	}
	for _, err := range []api.Errno{api.OK, api.ErrForm, api.ErrName, api.ErrType, api.ErrCount, api.ErrTwice} {
		if seen[err] < 100 {
			t.Errorf("%d patterns had the fault %d: too few", seen[err], err)
		}
	}
}

// anyPat is often one of a type, however that is formed.
func (s *sower) anyPat(cons []string, t api.Type, l []api.Data, depth int) api.Pat {
	kids := func(types []api.Type) []api.Pat {
		var made []api.Pat
		for _, of := range types {
			made = append(made, s.anyPat(cons, of, l, depth-1))
		}
		return made
	}
	name := pick(s, cons...)
	if _, fields, ok := made(l, name); ok && depth > 1 && s.below(2) == 0 {
		return conPat(name, kids(fields)...)
	}
	if at := firstOf(l, t.Name); t.Kind == api.TyData && at >= 0 && len(l[at].Cons) > 0 && s.below(2) == 0 {
		name = l[at].Cons[0].Name
	}
	if t.Kind == api.TyTuple && len(t.Parts) > 1 && s.below(3) > 0 {
		return rowPat(kids(t.Parts)...)
	}
	return pick(s, api.Pat{}, varPat("x"), varPat("x"), varPat("y"), varPat("z"), numPat(1), conPat(name), conPat(name, api.Pat{}), conPat(name, api.Pat{}, api.Pat{}), rowPat(api.Pat{}, varPat("x")))
}

// P9.1: each field of some patterns and types by itself
func TestBindsByOneField(t *testing.T) {
	l := ty.Datas(home(t))
	for of, src := range map[string]string{
		"tree":                         "Node(Node(a, b, c), (7, s), _)",
		"(list * (int * bool) * list)": "(Cons(1, Cons(x, r)), (_, True), z)",
	} {
		p, of := numbered(pat(t, src)), typeOf(t, of)
		changes(p, func(p api.Pat, _ string) { bindsAre(t, l, p, of) })
		changes(of, func(of api.Type, _ string) { bindsAre(t, l, p, of) })
		changes(l, func(l []api.Data, _ string) { bindsAre(t, l, p, of) })
	}
}

// varsOf is the names of a pattern's PtVars, from the left.
func varsOf(p api.Pat) []string {
	var l []string
	if p.Kind == api.PtVar {
		l = append(l, p.Name)
	}
	for _, kid := range p.Kids {
		l = append(l, varsOf(kid)...)
	}
	return l
}

// taken is what the names of a pattern that takes a value are then.
func taken(p api.Pat, v api.Value) ([]api.Value, bool) {
	switch p.Kind {
	case api.PtAny:
		return nil, true
	case api.PtVar:
		return []api.Value{v}, true
	case api.PtInt:
		return nil, v.Kind == api.VaInt && v.Num == p.Num
	}
	kind := map[int]int{api.PtCon: api.VaCon, api.PtTuple: api.VaTuple}[p.Kind]
	if v.Kind != kind || v.Name != p.Name || len(v.Kids) != len(p.Kids) {
		return nil, false
	}
	var all []api.Value
	for i, kid := range p.Kids {
		some, ok := taken(kid, v.Kids[i])
		if !ok {
			return nil, false
		}
		all = append(all, some...)
	}
	return all, true
}

// aValue is of a type, and mostly not deeper than so much.
func (m *maker) aValue(t api.Type, depth int) api.Value {
	kids := func(l []api.Type) []api.Value {
		var made []api.Value
		for _, of := range l {
			made = append(made, m.aValue(of, depth-1))
		}
		return made
	}
	switch t.Kind {
	case api.TyInt:
		return api.Value{Num: pick(m.sower, 0, 1, -1, most, -most)}
	case api.TyBytes:
		return api.Value{Kind: api.VaBytes, Bytes: []byte("abc")[:m.below(4)]}
	case api.TyTuple:
		return api.Value{Kind: api.VaTuple, Kids: kids(t.Parts)}
	}
	c := m.consOf(t.Name)[0]
	if depth > 0 {
		c = pick(m.sower, m.consOf(t.Name)...)
	}
	return api.Value{Kind: api.VaCon, Name: c.Name, Kids: kids(c.Fields)}
}

// P9.5: what a pattern gives is its PtVars, each once, with types that are known, and that their values are of
func TestBindsGivesItsVars(t *testing.T) {
	s := sower(2463534242)
	m := maker{sower: &s, all: ty.Datas(home(t))}
	right, values := 0, 0
	for range 12000 {
		m.slip = 20
		of := m.aType()
		p := numbered(m.pat(of, 4, map[string]int{}))
		given, fault := check.Binds(m.all, p, of)
		if fault != (api.Fault{}) {
			continue
		}
		right++
		var names []string
		for _, g := range given {
			names = append(names, g.Name)
			if !ty.Known(m.all, g.Type) || !ast.FitType(g.Type) {
				t.Fatalf("%s gives %s of a type that is not known: %s", short(p), g.Name, spelled(g.Type))
			}
		}
		if !slices.Equal(names, varsOf(p)) || hasTwice(slices.Clone(names)) {
			t.Fatalf("%s gives %q", short(p), names)
		}
		parts, ok := taken(p, m.aValue(of, 4))
		for i, v := range parts {
			if !value.Of(m.all, v, given[i].Type) {
				t.Fatalf("%s takes %s, and gives it as %s", short(p), short(v), spelled(given[i].Type))
			}
		}
		if ok {
			values += len(parts)
		}
	}
	if right < 5000 || values < 2000 {
		t.Errorf("%d patterns were right, %d values were taken: too few", right, values)
	}
}
