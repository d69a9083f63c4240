package check_test

import (
	"reflect"
	"slices"
	"strings"
	"testing"

	"handloom/api"
	"handloom/ast"
	"handloom/check"
)

// typeIs holds what TypeOf tells against the second reading, and is it.
func typeIs(t *testing.T, p api.Prog, env []api.Param, e api.Expr) (api.Type, api.Fault) {
	t.Helper()
	got, fault := check.TypeOf(p, env, e)
	want, wantFault := wantTypeOf(p, env, e)
	if !reflect.DeepEqual(got, want) || fault != wantFault {
		t.Fatalf("TypeOf(%s, %s)\n = %s, %v, want\n   %s, %v", spelledAll(env), short(e), short(got), fault, short(want), wantFault)
	}
	return got, fault
}

// has wants an expression to have a type, where names have types.
func has(t *testing.T, env, src, of string) {
	t.Helper()
	got, fault := typeIs(t, home(t), params(t, env), expr(t, src))
	if want := typeOf(t, of); fault != (api.Fault{}) || spelled(got) != spelled(want) {
		t.Errorf("with %q, %s is of %s, %v, want %s", env, src, spelled(got), fault, of)
	}
}

// hasNot wants an expression to have a fault at a column.
func hasNot(t *testing.T, env, src string, err api.Errno, col int) {
	t.Helper()
	got, fault := typeIs(t, home(t), params(t, env), expr(t, src))
	if want := (api.Fault{Err: err, At: place(1, col)}); !reflect.DeepEqual(got, api.Type{}) || fault != want {
		t.Errorf("with %q, %s is of %s, %v, want %v", env, src, spelled(got), fault, want)
	}
}

// P9.2: numbers, texts, names, constructors, tuples
func TestTypeOfValues(t *testing.T) {
	has(t, "", "0", "int")
	has(t, "", "~ 4611686018427387903", "int")
	has(t, "", `""`, "bytes")
	has(t, "", `"a\x00"`, "bytes")
	has(t, "", "True", "bool")
	has(t, "", "Nil", "list")
	has(t, "", "Cons(1, Cons(2, Nil))", "list")
	has(t, "", `One("a")`, "one")
	has(t, "", `Node(Leaf, (1, "a"), Node(Leaf, (2, ""), Leaf))`, "tree")
	has(t, "", `Say(1, Tell("a", Arm(1, 2, Stop(3, Done))))`, "act")
	has(t, "p : (int * bool), t : tree", `Six(1, "a", Nil, t, One(""), p)`, "six")
	has(t, "", `(1, "a")`, "(int * bytes)")
	has(t, "", `((1, Nil), (True, "a", Done), Leaf)`, "((int * list) * (bool * bytes * act) * tree)")
	has(t, "", `(1, 2, 3, 4, 5, "a")`, "(int * int * int * int * int * bytes)")
	for _, of := range []string{"int", "bytes", "bool", "list", "none", "(int * bytes)", "(none * (int * bool) * list)"} {
		has(t, "x : "+of, "x", of)
		has(t, "x : int, y : "+of+", z : bytes", "y", of)
		has(t, "x : "+of, "(x, 1, x)", "("+of+" * int * "+of+")")
	}
}

// P9.2: of two names of one Name the last one counts
func TestTypeOfTheLastName(t *testing.T) {
	has(t, "x : int, x : bytes", "x", "bytes")
	has(t, "x : int, y : int, x : bytes, y : bool", "(x, y)", "(bytes * bool)")
	has(t, "x : bytes, x : list, x : int", "x + 1", "int")
	hasNot(t, "x : int, x : bytes", "1 + x", api.ErrType, 5)
	p := home(t)
	for want, env := range map[string][]api.Param{
		"int":   {param("state", number())},
		"bytes": {param("state", number()), param("state", text())},
		"bool":  {param("state", text()), param("x", number()), param("state", data("bool")), param("y", number())},
	} {
		if got, fault := typeIs(t, p, env, variable("state")); fault != (api.Fault{}) || !alike(got, basic(want)) {
			t.Errorf("with %s state is of %s, %v, want %s", spelledAll(env), spelled(got), fault, want)
		}
	}
}

// P9.2: functions
func TestTypeOfCalls(t *testing.T) {
	has(t, "", "length(Nil)", "int")
	has(t, "", "push(push(Nil, 1), length(Nil))", "list")
	has(t, "p : (int * bool)", `pair("a", p)`, "(bytes * (int * bool))")
	has(t, "", `pair("a", (1, True))`, "(bytes * (int * bool))")
	has(t, "x : int", `many(x, "b", Nil, deep(Leaf), One("e"), (x, leaf(Leaf)))`, "act")
	has(t, "length : list", "length(length)", "int")
	has(t, "", "let push = 1 in push(Nil, push)", "list")
}

// P9.2: each operator
func TestTypeOfOperators(t *testing.T) {
	for _, sign := range strings.Fields("+ - * / %") {
		has(t, "x : int", "x "+sign+" 2", "int")
	}
	for _, sign := range strings.Fields("< <= ==") {
		has(t, "x : int", "x "+sign+" 2", "bool")
	}
	has(t, "b : bytes", "len(b)", "int")
	has(t, "b : bytes", "at(b, 1)", "int")
	has(t, "b : bytes", `cat(b, "a")`, "bytes")
	has(t, "b : bytes", "cut(b, 1, 2)", "bytes")
	has(t, "b : bytes", "len(cat(b, cut(b, at(b, 0), len(b) - 1))) < 1 + 2 * 3", "bool")
}

// P9.2: an operator's Kid of another type
func TestTypeOfOperatorsType(t *testing.T) {
	for _, sign := range strings.Fields("+ - * / % < <= ==") {
		for _, of := range []string{"bytes", "bool", "list", "none", "(int * int)"} {
			hasNot(t, "x : "+of, "x "+sign+" 1", api.ErrType, 1)
			hasNot(t, "x : "+of, "10 "+sign+" x", api.ErrType, 5+len(sign))
			hasNot(t, "x : "+of, "x "+sign+" x", api.ErrType, 1)
		}
	}
	for _, of := range []string{"int", "bool", "list", "none", "(int * bytes)"} {
		env := "b : bytes, x : " + of
		hasNot(t, env, "len(x)", api.ErrType, 5)
		hasNot(t, env, "at(x, 1)", api.ErrType, 4)
		hasNot(t, env, "cat(x, b)", api.ErrType, 5)
		hasNot(t, env, "cat(b, x)", api.ErrType, 8)
		hasNot(t, env, "cut(x, 1, 2)", api.ErrType, 5)
	}
	for _, of := range []string{"bytes", "bool", "list", "none", "(int * bytes)"} {
		env := "b : bytes, x : " + of
		hasNot(t, env, "at(b, x)", api.ErrType, 7)
		hasNot(t, env, "cut(b, x, 2)", api.ErrType, 8)
		hasNot(t, env, "cut(b, 1, x)", api.ErrType, 11)
	}
}

// P9.2: lets and loops
func TestTypeOfNames(t *testing.T) {
	has(t, "", "let x = 1 in x", "int")
	has(t, "", `let x = 1 in let x = "a" in x`, "bytes")
	has(t, "x : bytes", "let x = len(x) in x + 1", "int")
	has(t, "x : bytes", "(let x = 1 in x, x)", "(int * bytes)")
	has(t, "x : bytes", "let y = (let x = 1 in x) in (x, y)", "(bytes * int)")
	has(t, "x : bytes", "let x = (x, 1) in let x = (x, x) in x", "((bytes * int) * (bytes * int))")
	has(t, "", "for 3 with x = 0 do x + 1", "int")
	has(t, "", "for 0 with l = Nil do push(l, length(l))", "list")
	has(t, "x : bytes", "for 1000 with x = len(x) do x * 2", "int")
	has(t, "x : bytes", "(for 2 with x = 1 do x, x)", "(int * bytes)")
	has(t, "", "for 3 with p = (1, Nil) do match p with (n, l) -> (n + 1, Cons(n, l)) end", "(int * list)")
	hasNot(t, "", "let x = x in 1", api.ErrName, 9)
	hasNot(t, "", "let x = 1 in y", api.ErrName, 14)
	hasNot(t, "", "(let x = 1 in x, x)", api.ErrName, 18)
	hasNot(t, "", "for 3 with x = x do 1", api.ErrName, 16)
	hasNot(t, "", "(for 3 with x = 1 do x, x)", api.ErrName, 25)
	hasNot(t, "", `for 3 with x = 0 do "a"`, api.ErrType, 21)
	hasNot(t, "", "for 3 with x = 0 do x < 1", api.ErrType, 23)
	hasNot(t, "x : bytes", "for 0 with y = 0 do x", api.ErrType, 21)
	hasNot(t, "", "for 3 with x = Nil do (x, x)", api.ErrType, 23)
}

// P9.2: choices
func TestTypeOfChoices(t *testing.T) {
	has(t, "", "if True then 1 else 2", "int")
	has(t, "x : int", `if x < 1 then "a" else cat("b", "c")`, "bytes")
	has(t, "", "if if True then False else True then (1, Nil) else (2, Cons(1, Nil))", "(int * list)")
	for _, of := range []string{"int", "bytes", "list", "none", "act", "(bool * bool)"} {
		hasNot(t, "x : "+of, "if x then 1 else 2", api.ErrType, 4)
		has(t, "x : "+of, "if True then x else x", of)
		hasNot(t, "x : "+of, "if True then x else False", api.ErrType, 21)
		hasNot(t, "x : "+of, "if True then False else x", api.ErrType, 25)
	}
	hasNot(t, "", `if True then (1, "a") else (1, 2)`, api.ErrType, 28)
	hasNot(t, "", `if True then (1, 2) else (1, 2, 3)`, api.ErrType, 26)
	hasNot(t, "", `if True then ((1, 2), 3) else (1, (2, 3))`, api.ErrType, 31)
}

// P9.2: matches
func TestTypeOfMatches(t *testing.T) {
	has(t, "l : list", "match l with Nil -> 0 | Cons(x, r) -> x + length(r) end", "int")
	has(t, "l : list, x : bytes", "match l with Cons(x, _) -> x | r -> length(r) end", "int")
	has(t, "l : list, x : bytes", "match l with Cons(y, _) -> x | l -> x end", "bytes")
	has(t, "l : list, x : bytes", "(match l with x -> x end, x)", "(list * bytes)")
	has(t, "l : list, x : bytes", "match l with Cons(x, _) -> \"a\" | _ -> x end", "bytes")
	has(t, "n : none", "match n with x -> (x, 1) end", "(none * int)")
	has(t, "", "match (1, (Nil, True)) with (x, (l, b)) -> (b, l, x) end", "(bool * list * int)")
	has(t, "", "match 1 with 1 -> Nil | ~ 2 -> Nil | _ -> Nil end", "list")
	has(t, "", "match \"a\" with x -> len(x) end", "int")
	has(t, "x : list", "match x with Cons(x, r) -> match r with Cons(y, _) -> x + y | _ -> x end | x -> length(x) end", "int")
	hasNot(t, "", "match 1 with x -> x | _ -> \"a\" end", api.ErrType, 28)
	hasNot(t, "", "match 1 with 1 -> 1 | 2 -> 2 | 3 -> True | _ -> \"a\" end", api.ErrType, 37)
	hasNot(t, "l : list", "match l with Nil -> 1 | l -> l end", api.ErrType, 30)
	hasNot(t, "l : list", "match l with Cons(x, _) -> 1 | _ -> x end", api.ErrName, 37)
	hasNot(t, "l : list", "(match l with x -> 1 end, x)", api.ErrName, 27)
	hasNot(t, "l : list", "match x with x -> 1 end", api.ErrName, 7)
	hasNot(t, "", "match 1 with Nil -> 1 end", api.ErrType, 14)
	hasNot(t, "", "match 1 with x -> 1 | True -> 1 end", api.ErrType, 23)
	hasNot(t, "", "match 1 with None -> 1 end", api.ErrName, 14)
	hasNot(t, "l : list", "match l with Cons(x) -> 1 end", api.ErrCount, 14)
	hasNot(t, "l : list", "match l with Cons(x, x) -> 1 end", api.ErrTwice, 22)
	hasNot(t, "", "match (1, 2) with (x, y, z) -> 1 end", api.ErrType, 19)
	has(t, "l : list", "match l with Cons(x, _) -> x | Cons(_, Cons(x, _)) -> x | _ -> 0 end", "int")
}

// P9.2: names, constructors and functions that there are none of
func TestTypeOfName(t *testing.T) {
	hasNot(t, "", "x", api.ErrName, 1)
	hasNot(t, "y : int, xx : int", "x", api.ErrName, 1)
	hasNot(t, "", "state", api.ErrName, 1)
	hasNot(t, "", "list", api.ErrName, 1)
	hasNot(t, "", "length", api.ErrName, 1)
	hasNot(t, "", "None", api.ErrName, 1)
	hasNot(t, "", "None(x, y)", api.ErrName, 1)
	hasNot(t, "", "none(x)", api.ErrName, 1)
	hasNot(t, "", "(1, 2, none(1))", api.ErrName, 8)
	hasNot(t, "none : int", "none(1)", api.ErrName, 1)
	hasNot(t, "", "Cons(1, x)", api.ErrName, 9)
	hasNot(t, "", "push(Nil, length(x))", api.ErrName, 18)
}

// P9.2: one Kid more or fewer, ahead of what is wrong with the Kids
func TestTypeOfCount(t *testing.T) {
	hasNot(t, "", "Nil(1)", api.ErrCount, 1)
	hasNot(t, "", "Cons", api.ErrCount, 1)
	hasNot(t, "", "Cons(1)", api.ErrCount, 1)
	hasNot(t, "", "Cons(1, Nil, Nil)", api.ErrCount, 1)
	hasNot(t, "", "Cons(x, None, none(1))", api.ErrCount, 1)
	hasNot(t, "", "Done(1)", api.ErrCount, 1)
	hasNot(t, "", "length(Nil, Nil)", api.ErrCount, 1)
	hasNot(t, "", "push(Nil)", api.ErrCount, 1)
	hasNot(t, "", "push(x, y, z)", api.ErrCount, 1)
	hasNot(t, "", `many(1, "b", Nil, Leaf, One("e"))`, api.ErrCount, 1)
	hasNot(t, "", "(1, Cons(1))", api.ErrCount, 5)
}

// P9.2: a Kid of another type, at that Kid
func TestTypeOfType(t *testing.T) {
	hasNot(t, "", "Cons(Nil, Nil)", api.ErrType, 6)
	hasNot(t, "", "Cons(1, 2)", api.ErrType, 9)
	hasNot(t, "", "Cons(1, Leaf)", api.ErrType, 9)
	hasNot(t, "", "Node(Leaf, (1, 2), Leaf)", api.ErrType, 12)
	hasNot(t, "", `Node(Leaf, (1, "a", 2), Leaf)`, api.ErrType, 12)
	hasNot(t, "", `Say("a", Done)`, api.ErrType, 5)
	hasNot(t, "", `Tell(1, Done)`, api.ErrType, 6)
	hasNot(t, "", "length(1)", api.ErrType, 8)
	hasNot(t, "", "push(1, Nil)", api.ErrType, 6)
	hasNot(t, "", "push(Nil, Nil)", api.ErrType, 11)
	hasNot(t, "", `pair("a", (1, 2))`, api.ErrType, 11)
	hasNot(t, "x : none", "leaf(x)", api.ErrType, 6)
	hasNot(t, "", `many(1, "b", Nil, Leaf, One("e"), (1, 2))`, api.ErrType, 35)
	hasNot(t, "", `many(1, "b", Nil, Leaf, Nil, (1, 2))`, api.ErrType, 25)
	hasNot(t, "", "push(Nil, 1 < 2)", api.ErrType, 13) // an operator's place is its sign's
}

// P9.2: several faults at once: the first one from the left; a Kid is looked at whole, and then held, ahead of the next one
func TestTypeOfFirst(t *testing.T) {
	hasNot(t, "", `"a" + x`, api.ErrType, 1)
	hasNot(t, "", `x + "a"`, api.ErrName, 1)
	hasNot(t, "", "(1, x, y)", api.ErrName, 5)
	hasNot(t, "", "push(Cons(1, x), y)", api.ErrName, 14)
	hasNot(t, "", "push((1, x), y)", api.ErrName, 10)
	hasNot(t, "", "push((1, 2), y)", api.ErrType, 6)
	hasNot(t, "", "cut(1, 2, x)", api.ErrType, 5)
	hasNot(t, "", "if 1 then x else y", api.ErrType, 4)
	hasNot(t, "", "if x then y else z", api.ErrName, 4)
	hasNot(t, "", "if True then y else 1", api.ErrName, 14)
	hasNot(t, "", "if True then 1 else (Nil, y)", api.ErrName, 27)
	hasNot(t, "", "let x = y in z", api.ErrName, 9)
	hasNot(t, "", "for 1 with x = y do z", api.ErrName, 16)
	hasNot(t, "", "for 1 with x = 1 do (x, z)", api.ErrName, 25)
	hasNot(t, "", "match y with None -> z end", api.ErrName, 7)
	hasNot(t, "", "match 1 with None -> z end", api.ErrName, 14)
	hasNot(t, "", "match 1 with _ -> z | None -> 1 end", api.ErrName, 19)
	hasNot(t, "", "match 1 with _ -> 1 | None -> z end", api.ErrName, 23)
	hasNot(t, "", "match 1 with _ -> 1 | _ -> True | Nil -> 1 end", api.ErrType, 28)
	hasNot(t, "", "match 1 with _ -> 1 | Nil -> 1 | _ -> True end", api.ErrType, 23)
	hasNot(t, "", "match 1 with _ -> 1 | _ -> (True, z) end", api.ErrName, 35)
	hasNot(t, "", "none(None, x)", api.ErrName, 1)
	hasNot(t, "", "length(1, x)", api.ErrCount, 1)
	hasNot(t, "", "length(Nil) + (True, x)", api.ErrName, 22)
}

// the chapter's examples
func TestTypeOfExamples(t *testing.T) {
	has(t, "x : int", "1 < x", "bool")
	hasNot(t, "x : bytes", "1 < x", api.ErrType, 5)
	p := prog(t, rest)
	if got, fault := typeIs(t, p, nil, expr(t, "f(1)")); fault != (api.Fault{Err: api.ErrName, At: place(1, 1)}) {
		t.Errorf("f(1) without functions is of %s, %v", spelled(got), fault)
	}
}

// P9.2: all functions may be called, whatever is wrong with a program that is fit
func TestTypeOfAnyProgram(t *testing.T) {
	p := prog(t, `type t = A of none type t = B | A type bool = C
fun f (x : none, x : int) : t = g(1) fun g (x : bool) : none = y fun f (x : int) : bytes = x`+rest)
	p.Timers, p.State = 3, data("none")
	for src, want := range map[string]api.Type{
		"f(x, 1)": data("t"), "g(True)": data("none"), "A(x)": data("t"), "B": data("t"), "C": data("bool"), "if C then 1 else 2": number(),
	} {
		got, fault := typeIs(t, p, []api.Param{param("x", data("none"))}, expr(t, src))
		if fault != (api.Fault{}) || !alike(got, want) {
			t.Errorf("%s is of %s, %v, want %s", src, spelled(got), fault, spelled(want))
		}
	}
	for src, want := range map[string]api.Fault{
		"f(1)": {Err: api.ErrCount, At: place(1, 1)}, "A": {Err: api.ErrCount, At: place(1, 1)}, "f(1, 1)": {Err: api.ErrType, At: place(1, 3)},
		"match B with B -> 1 end": {Err: api.ErrType, At: place(1, 14)}, // of two types of one name the first one is found
	} {
		if got, fault := typeIs(t, p, nil, expr(t, src)); fault != want {
			t.Errorf("%s is of %s, %v, want %v", src, spelled(got), fault, want)
		}
	}
}

// P9.2: what is not fit, the program or the expression
func TestTypeOfForm(t *testing.T) {
	env := []api.Param{param("x", number())}
	form := func(p api.Prog, e api.Expr) {
		t.Helper()
		if got, fault := typeIs(t, p, env, e); !reflect.DeepEqual(got, api.Type{}) || fault != (api.Fault{Err: api.ErrForm}) {
			t.Errorf("TypeOf(%s, %s) = %s, %v, want a fault of its form", short(p), short(e), spelled(got), fault)
		}
	}
	p, one := home(t), num(1)
	for _, e := range []api.Expr{
		{Kind: 11}, {Kind: -1}, {Name: "x"}, num(most + 1), num(-most - 1), {Bytes: []byte("a")}, {Kids: []api.Expr{one}}, {Arms: make([]api.Arm, 1)},
		quoted(strings.Repeat("a", 65)), variable(""), variable("X"), variable("in"), variable(strings.Repeat("x", 25)), {Kind: api.ExVar, Name: "x", Num: 1},
		{Kind: api.ExCon, Name: "nil"}, {Kind: api.ExCon, Name: "Nil", Kids: make([]api.Expr, 7)}, row(), row(one), row(make([]api.Expr, 7)...),
		{Kind: api.ExCall, Name: "length"}, {Kind: api.ExCall, Name: "len", Kids: []api.Expr{quoted("")}}, {Kind: api.ExCall, Name: "F", Kids: []api.Expr{one}},
		let("x", one, api.Expr{Kind: 11}), let("X", one, one), {Kind: api.ExLet, Name: "x", Kids: []api.Expr{one}}, choice(one, one), choice(one, one, one, one),
		match(one), {Kind: api.ExMatch, Arms: make([]api.Arm, 1)}, match(one, make([]api.Arm, 33)...), match(one, arm(varPat("X"), one)), match(one, arm(varPat("x"), row())),
		op(12, one, one), op(-1, one, one), op(api.OpAdd, one), op(api.OpLen, one, one), op(api.OpCut, one, one), op(api.OpAt, one), {Kind: api.ExOp, Kids: []api.Expr{one, one, one}},
		loop(-1, "x", one, one), loop(1001, "x", one, one), loop(1, "", one, one), {Kind: api.ExFor, Name: "x", Kids: []api.Expr{one}},
		row(variable("none"), row()), // ahead of all else
		nested(64, one, func(e api.Expr) api.Expr { return row(e, one) }),
	} {
		form(p, e)
		form(p, numbered(e))
	}
	for _, spoil := range []func(p *api.Prog){
		func(p *api.Prog) { *p = api.Prog{} },
		func(p *api.Prog) { p.Queue = 33 },
		func(p *api.Prog) { p.Timers = -1 },
		func(p *api.Prog) { p.State.Parts = []api.Type{{}} },
		func(p *api.Prog) { p.Init = row() },
		func(p *api.Prog) { p.Datas[0].Name = "int" },
		func(p *api.Prog) { p.Datas[0].Cons = nil },
		func(p *api.Prog) { p.Funs[0].Name = "cat" },
		func(p *api.Prog) { p.Funs[0].Params = nil },
		func(p *api.Prog) { p.Funs[0].Body.Kids = nil },
		func(p *api.Prog) { p.Hands = []api.Hand{{}} },
	} {
		p := home(t)
		spoil(&p)
		form(p, one)
		form(p, variable("none"))
	}
}

// P9.2: names of any form, with types of any form
func TestTypeOfAnyNames(t *testing.T) {
	p := home(t)
	s := sower(521288629)
	names := []string{"x", "y", "X", "", "state", "\xff"}
	sources := []api.Expr{}
	for _, src := range strings.Split("x;y;state;(x, y);x + 1;len(x);Cons(x, y);if x then y else y;if True then x else y;match x with (y, z) -> z end;match x with 1 -> y | _ -> x end;"+
		"match x with Nil -> y | Cons(_, y) -> y end;for 2 with z = x do z;for 2 with z = x do y;length(x);push(y, x);match y with True -> x | False -> y end;let x = (x, x) in (x, y)", ";") {
		sources = append(sources, expr(t, src))
	}
	seen := map[api.Errno]int{}
	for range 10000 {
		env := some(s.below(6), func() api.Param {
			return param(pick(&s, names...), s.anyType([]string{"list", "bool", "none", ""}, 3))
		})
		_, fault := typeIs(t, p, env, pick(&s, sources...))
		seen[fault.Err]++
	}
	for _, err := range []api.Errno{api.OK, api.ErrName, api.ErrType} {
		if seen[err] < 500 {
			t.Errorf("%d expressions had the fault %d: too few", seen[err], err)
		}
	}
}

// env is names with types.
func (m *maker) env() []api.Param {
	return some(m.below(5), func() api.Param { return param(m.aName(), m.aType()) })
}

func newMaker(t *testing.T, s *sower) (maker, api.Prog) {
	p := home(t)
	return maker{sower: s, all: slices.Concat(theTwo(), p.Datas), funs: p.Funs}, p
}

// P9.2: expressions that look like chance, most of them right
func TestTypeOfMany(t *testing.T) {
	s := sower(88172645463325252)
	m, p := newMaker(t, &s)
	seen, kinds := map[api.Errno]int{}, map[int]int{}
	for i := range 16000 {
		m.slip = []int{0, 10, 30, 100}[i%4]
		of, env := m.aType(), m.env()
		e := numbered(m.expr(of, env, 5))
		got, fault := typeIs(t, p, env, e)
		if m.slip == 0 && (fault != (api.Fault{}) || !alike(got, of)) {
			t.Fatalf("an expression of %s is of %s, %v", spelled(of), spelled(got), fault)
		}
		seen[fault.Err]++
		kinds[e.Kind]++
	}
	for _, err := range []api.Errno{api.OK, api.ErrForm, api.ErrName, api.ErrType, api.ErrCount, api.ErrTwice} {
		if seen[err] < 10 {
			t.Errorf("%d expressions had the fault %d: too few", seen[err], err)
		}
	}
	for kind := api.ExInt; kind <= api.ExFor; kind++ {
		if kinds[kind] < 100 {
			t.Errorf("%d expressions were of the kind %d: too few", kinds[kind], kind)
		}
	}
}

// P9.2: each field of some expressions, names and programs by itself
func TestTypeOfByOneField(t *testing.T) {
	p, env := home(t), params(t, "x : int, l : list, t : (tree * bytes)")
	for _, src := range []string{
		`match t with (Node(a, (n, b), _), c) -> (length(push(l, n + x)), cat(b, c)) | (_, b) -> (for 2 with y = x do at(cut(b, y, 1), 0), b) end`,
		`let p = pair("a", (x, True)) in if x < 2 then p else match p with (b, (y, z)) -> pair(b, (len(b), z)) end`,
	} {
		e := numbered(expr(t, src))
		changes(e, func(e api.Expr, _ string) { typeIs(t, p, env, e) })
		changes(env, func(env []api.Param, _ string) { typeIs(t, p, env, e) })
		changes(p.Datas, func(l []api.Data, _ string) {
			p := p
			p.Datas = l
			typeIs(t, p, env, e)
		})
		changes(p.Funs[1:3], func(l []api.Fun, _ string) {
			p := p
			p.Funs = l
			typeIs(t, p, env, e)
		})
	}
}

// P9.4: an expression has one type at most: it may be a function's Body for that Result alone
func TestOneType(t *testing.T) {
	s := sower(2463534242)
	m, p := newMaker(t, &s)
	types := []api.Type{
		number(), text(), data("bool"), data("act"), data("list"), data("tree"), data("one"), data("six"),
		tuple(number(), data("bool")), tuple(number(), data("list")), tuple(text(), tuple(number(), data("bool"))), tuple(data("list"), data("list"), data("one")),
	}
	right := 0
	for range 800 {
		m.slip = 40
		env := []api.Param{param("x", m.aType()), param("y", m.aType()), param("z", m.aType())}
		e := m.expr(m.aType(), env, 4)
		of, fault := check.TypeOf(p, env, e)
		var fits []string
		for _, result := range types {
			with := p
			with.Funs = append(slices.Clone(p.Funs), api.Fun{Name: "it", Params: env, Result: result, Body: e})
			if check.Check(with) == (api.Fault{}) {
				fits = append(fits, spelled(result))
			}
		}
		if fault != (api.Fault{}) {
			if len(fits) > 0 {
				t.Fatalf("%s has the fault %v, and is of %q", short(e), fault, fits)
			}
			continue
		}
		if right++; slices.ContainsFunc(types, func(x api.Type) bool { return alike(x, of) }) && !slices.Equal(fits, []string{spelled(of)}) {
			t.Fatalf("%s is of %s, and of %q", short(e), spelled(of), fits)
		}
	}
	if right < 200 {
		t.Errorf("%d expressions were right: too few", right)
	}
}

// P9.4: with names more, which it does not lean on, behind others an expression has the same type, or the same fault
func TestNamesMore(t *testing.T) {
	s := sower(362436069)
	m, p := newMaker(t, &s)
	more := 0
	for i := range 4000 {
		m.slip = []int{0, 40}[i%2]
		env := m.env()
		e := numbered(m.expr(m.aType(), env, 5))
		of, fault := check.TypeOf(p, env, e)
		var with []api.Param
		for range 1 + m.below(5) {
			x := param(m.aName(), m.aType())
			if !slices.Contains(ast.Free(e), x.Name) {
				with = append(with, x)
			}
		}
		more += len(with)
		got, again := check.TypeOf(p, behind(env, with...), e)
		if !reflect.DeepEqual(got, of) || again != fault {
			t.Fatalf("with %s %s is of %s, %v, with %s behind of %s, %v", spelledAll(env), short(e), spelled(of), fault, spelledAll(with), spelled(got), again)
		}
	}
	if more < 4000 {
		t.Errorf("%d names more were tried: too few", more)
	}
}
