package ast

import "handloom/api"

func sameType(a, b api.Type) bool {
	return a.Kind == b.Kind && a.Name == b.Name && alike(a.Parts, b.Parts, sameType)
}

func samePat(a, b api.Pat) bool {
	return a.Kind == b.Kind && a.Name == b.Name && a.Num == b.Num && alike(a.Kids, b.Kids, samePat)
}

func sameArm(a, b api.Arm) bool { return samePat(a.Pat, b.Pat) && SameExpr(a.Body, b.Body) }

func sameCon(a, b api.Con) bool { return a.Name == b.Name && alike(a.Fields, b.Fields, sameType) }

func sameData(a, b api.Data) bool { return a.Name == b.Name && alike(a.Cons, b.Cons, sameCon) }

func sameParam(a, b api.Param) bool { return a.Name == b.Name && sameType(a.Type, b.Type) }

func sameFun(a, b api.Fun) bool {
	return a.Name == b.Name && alike(a.Params, b.Params, sameParam) && sameType(a.Result, b.Result) && SameExpr(a.Body, b.Body)
}

func sameHand(a, b api.Hand) bool {
	return a.Name == b.Name && a.Cap == b.Cap && sameParam(a.Param, b.Param) && SameExpr(a.Body, b.Body)
}
