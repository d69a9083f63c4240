package ast_test

import (
	"fmt"

	"handloom/api"
)

func num(n int64) api.Expr { return api.Expr{Kind: api.ExInt, Num: n} }

func text(s string) api.Expr { return api.Expr{Kind: api.ExBytes, Bytes: []byte(s)} }

func variable(name string) api.Expr { return api.Expr{Kind: api.ExVar, Name: name} }

func con(name string, kids ...api.Expr) api.Expr {
	return api.Expr{Kind: api.ExCon, Name: name, Kids: kids}
}

func tuple(kids ...api.Expr) api.Expr { return api.Expr{Kind: api.ExTuple, Kids: kids} }

func call(name string, kids ...api.Expr) api.Expr {
	return api.Expr{Kind: api.ExCall, Name: name, Kids: kids}
}

func let(name string, what, where api.Expr) api.Expr {
	return api.Expr{Kind: api.ExLet, Name: name, Kids: []api.Expr{what, where}}
}

func cond(kids ...api.Expr) api.Expr { return api.Expr{Kind: api.ExIf, Kids: kids} }

func match(of api.Expr, arms ...api.Arm) api.Expr {
	return api.Expr{Kind: api.ExMatch, Kids: []api.Expr{of}, Arms: arms}
}

func arm(p api.Pat, body api.Expr) api.Arm { return api.Arm{Pat: p, Body: body} }

func op(n int64, kids ...api.Expr) api.Expr { return api.Expr{Kind: api.ExOp, Num: n, Kids: kids} }

func loop(times int64, name string, first, then api.Expr) api.Expr {
	return api.Expr{Kind: api.ExFor, Num: times, Name: name, Kids: []api.Expr{first, then}}
}

func anyPat() api.Pat { return api.Pat{} }

func varPat(name string) api.Pat { return api.Pat{Kind: api.PtVar, Name: name} }

func numPat(n int64) api.Pat { return api.Pat{Kind: api.PtInt, Num: n} }

func conPat(name string, kids ...api.Pat) api.Pat {
	return api.Pat{Kind: api.PtCon, Name: name, Kids: kids}
}

func tuplePat(kids ...api.Pat) api.Pat { return api.Pat{Kind: api.PtTuple, Kids: kids} }

func data(name string) api.Type { return api.Type{Kind: api.TyData, Name: name} }

func tupleType(parts ...api.Type) api.Type { return api.Type{Kind: api.TyTuple, Parts: parts} }

// sample is a program that has each kind of type, pattern and expression.
func sample() api.Prog {
	x, list := variable("x"), data("list")
	number := api.Type{Kind: api.TyInt}
	body := match(x,
		arm(tuplePat(varPat("y"), anyPat(), numPat(-3)), let("z", text("a\x00"), op(api.OpLen, variable("z")))),
		arm(conPat("Cons", varPat("h"), conPat("Nil")), loop(3, "k", num(1), op(api.OpMul, variable("k"), call("f", x, variable("h"))))))
	return api.Prog{
		Datas: []api.Data{{At: api.Pos{Line: 1, Col: 2}, Name: "list", Cons: []api.Con{
			{Name: "Nil"}, {Name: "Cons", Fields: []api.Type{number, list, tupleType(number, api.Type{}, list)}}}}},
		Funs: []api.Fun{{At: api.Pos{Line: 2, Col: 1}, Name: "f", Params: []api.Param{{Name: "x", Type: list}, {Name: "n", Type: number}},
			Result: number, Body: body}},
		Queue: 2, Timers: 1, State: tupleType(number, api.Type{Kind: api.TyBytes}), Cap: 3, Init: tuple(num(0), text("")),
		Hands: []api.Hand{{At: api.Pos{Line: 5, Col: 1}, Name: "add", Param: api.Param{Name: "n", Type: list}, Cap: 9,
			Body: cond(op(api.OpLt, num(1), num(2)), tuple(variable("state"), con("Done")), op(api.OpCut, text("ab"), num(0), num(1)))}},
	}
}

// short is what a tree looks like, cut off.
func short(tree any) string {
	s := fmt.Sprintf("%+v", tree)
	return s[:min(len(s), 400)]
}
