package show_test

import (
	"fmt"

	"handloom/api"
)

const most = int64(1<<62 - 1)

func num(n int64) api.Expr { return api.Expr{Kind: api.ExInt, Num: n} }

func text(s string) api.Expr { return api.Expr{Kind: api.ExBytes, Bytes: []byte(s)} }

func variable(name string) api.Expr { return api.Expr{Kind: api.ExVar, Name: name} }

func con(name string, kids ...api.Expr) api.Expr {
	return api.Expr{Kind: api.ExCon, Name: name, Kids: kids}
}

func tuple(kids ...api.Expr) api.Expr { return api.Expr{Kind: api.ExTuple, Kids: kids} }

func call(name string, kids ...api.Expr) api.Expr {
	return api.Expr{Kind: api.ExCall, Name: name, Kids: kids}
}

func let(name string, what, where api.Expr) api.Expr {
	return api.Expr{Kind: api.ExLet, Name: name, Kids: []api.Expr{what, where}}
}

func cond(kids ...api.Expr) api.Expr { return api.Expr{Kind: api.ExIf, Kids: kids} }

func match(of api.Expr, arms ...api.Arm) api.Expr {
	return api.Expr{Kind: api.ExMatch, Kids: []api.Expr{of}, Arms: arms}
}

func arm(p api.Pat, body api.Expr) api.Arm { return api.Arm{Pat: p, Body: body} }

func op(n int64, kids ...api.Expr) api.Expr { return api.Expr{Kind: api.ExOp, Num: n, Kids: kids} }

func loop(times int64, name string, first, then api.Expr) api.Expr {
	return api.Expr{Kind: api.ExFor, Num: times, Name: name, Kids: []api.Expr{first, then}}
}

func anyPat() api.Pat { return api.Pat{} }

func varPat(name string) api.Pat { return api.Pat{Kind: api.PtVar, Name: name} }

func numPat(n int64) api.Pat { return api.Pat{Kind: api.PtInt, Num: n} }

func conPat(name string, kids ...api.Pat) api.Pat {
	return api.Pat{Kind: api.PtCon, Name: name, Kids: kids}
}

func tuplePat(kids ...api.Pat) api.Pat { return api.Pat{Kind: api.PtTuple, Kids: kids} }

func bytesType() api.Type { return api.Type{Kind: api.TyBytes} }

func data(name string) api.Type { return api.Type{Kind: api.TyData, Name: name} }

func tupleType(parts ...api.Type) api.Type { return api.Type{Kind: api.TyTuple, Parts: parts} }

// wraps put an expression into each place that one may have, within one that is fit.
func wraps() []func(e api.Expr) api.Expr {
	one := num(1)
	l := []func(e api.Expr) api.Expr{
		func(e api.Expr) api.Expr { return con("A", e) },
		func(e api.Expr) api.Expr { return con("A", one, e) },
		func(e api.Expr) api.Expr { return tuple(e, one) },
		func(e api.Expr) api.Expr { return tuple(one, one, one, one, one, e) },
		func(e api.Expr) api.Expr { return call("f", e) },
		func(e api.Expr) api.Expr { return call("f", one, e, one) },
		func(e api.Expr) api.Expr { return let("x", e, one) },
		func(e api.Expr) api.Expr { return let("x", one, e) },
		func(e api.Expr) api.Expr { return cond(e, one, one) },
		func(e api.Expr) api.Expr { return cond(one, e, one) },
		func(e api.Expr) api.Expr { return cond(one, one, e) },
		func(e api.Expr) api.Expr { return match(e, arm(anyPat(), one)) },
		func(e api.Expr) api.Expr { return match(one, arm(anyPat(), e)) },
		func(e api.Expr) api.Expr { return match(one, arm(numPat(-1), one), arm(anyPat(), e)) },
		func(e api.Expr) api.Expr { return loop(2, "x", e, one) },
		func(e api.Expr) api.Expr { return loop(2, "x", one, e) },
		func(e api.Expr) api.Expr { return op(api.OpLen, e) },
		func(e api.Expr) api.Expr { return op(api.OpCut, one, e, one) },
		func(e api.Expr) api.Expr { return op(api.OpCut, one, one, e) },
	}
	for _, n := range []int64{0, 1, 2, 3, 4, 5, 6, 7, api.OpAt, api.OpCat} {
		l = append(l, func(e api.Expr) api.Expr { return op(n, e, one) }, func(e api.Expr) api.Expr { return op(n, one, e) })
	}
	return l
}

// patWraps put a pattern into each place that one may have within another.
func patWraps() []func(p api.Pat) api.Pat {
	return []func(p api.Pat) api.Pat{
		func(p api.Pat) api.Pat { return conPat("A", p) },
		func(p api.Pat) api.Pat { return conPat("A", anyPat(), p) },
		func(p api.Pat) api.Pat { return tuplePat(p, numPat(-1)) },
		func(p api.Pat) api.Pat { return tuplePat(numPat(1), varPat("x"), p) },
	}
}

// typeWraps put a type into each place that one may have within another.
func typeWraps() []func(t api.Type) api.Type {
	return []func(t api.Type) api.Type{
		func(t api.Type) api.Type { return tupleType(t, api.Type{}) },
		func(t api.Type) api.Type { return tupleType(data("a"), bytesType(), t) },
	}
}

// nested is a part with so many others round it.
func nested[T any](count int, inner T, wrap func(T) T) T {
	for range count {
		inner = wrap(inner)
	}
	return inner
}

// sample is a program that has each kind of declaration.
func sample() api.Prog {
	number, list := api.Type{}, data("list")
	return api.Prog{
		Datas: []api.Data{
			{Name: "list", Cons: []api.Con{{Name: "Nil"}, {Name: "Cons", Fields: []api.Type{number, list}}}},
			{Name: "bool", Cons: []api.Con{{Name: "False"}}},
		},
		Funs: []api.Fun{
			{Name: "one", Params: []api.Param{{Name: "x", Type: tupleType(number, list)}}, Result: list, Body: con("Nil")},
			{Name: "two", Params: []api.Param{{Name: "x", Type: number}, {Name: "y", Type: bytesType()}}, Result: number, Body: op(api.OpAdd, variable("x"), num(-1))},
		},
		Queue: 2, Timers: 3, State: bytesType(), Cap: 4, Init: text("a\n"),
		Hands: []api.Hand{
			{Name: "add", Param: api.Param{Name: "n", Type: number}, Cap: 5, Body: tuple(variable("state"), con("Done"))},
			{Name: "sub", Param: api.Param{Name: "l", Type: list}, Cap: 64, Body: tuple(text(""), con("Say", num(1), con("Done")))},
		},
	}
}

// short is what a tree, or a text, looks like, cut off.
func short(tree any) string {
	s := fmt.Sprintf("%+v", tree)
	return s[:min(len(s), 400)]
}
