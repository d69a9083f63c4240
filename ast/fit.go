package ast

import (
	"handloom/api"
	"handloom/lex"
)

// maxNum is the greatest number that can be written; the least one is as far below 0.
const maxNum = 1<<62 - 1

// span is numbers from least to most.
type span struct{ least, most int64 }

func from(least, most int64) span { return span{least, most} }

func just(n int64) span { return span{n, n} }

func (s span) has(n int64) bool { return s.least <= n && n <= s.most }

func (s span) many(n int) bool { return s.has(int64(n)) }

// shape is what a part of a tree has by its kind: which Name, which Num, and how many of each list. What a kind does not speak of has the zero span, which wants it zero, or empty.
type shape struct {
	name  func(s string) bool
	num   span
	bytes span
	kids  span
	arms  span
}

func isEmpty(s string) bool { return s == "" }

func isNothing(string) bool { return false }

func isSmall(s string) bool { return lex.Named(s, false) }

func isGreat(s string) bool { return lex.Named(s, true) }

func isVar(s string) bool { return s == "state" || isSmall(s) }

// isOfData tells whether a name can be that of a type that is declared.
func isOfData(s string) bool {
	switch s {
	case "int", "bytes":
		return false
	}
	return isSmall(s)
}

// isOfFun tells whether a name can be a function's.
func isOfFun(s string) bool {
	switch s {
	case "len", "at", "cat", "cut":
		return false
	}
	return isOfData(s)
}

// anyKind is what parts of all kinds begin with: those of no kind stay so, and no name is theirs.
func anyKind() shape { return shape{name: isNothing} }

func typeShape(kind int) shape {
	s := anyKind()
	switch kind {
	case api.TyInt, api.TyBytes:
		s.name = isEmpty
	case api.TyData:
		s.name = isOfData
	case api.TyTuple:
		s.name, s.kids = isEmpty, from(2, api.MaxFields)
	}
	return s
}

func patShape(kind int) shape {
	s := anyKind()
	switch kind {
	case api.PtAny:
		s.name = isEmpty
	case api.PtVar:
		s.name = isSmall
	case api.PtInt:
		s.name, s.num = isEmpty, from(-maxNum, maxNum)
	case api.PtCon:
		s.name, s.kids = isGreat, from(0, api.MaxFields)
	case api.PtTuple:
		s.name, s.kids = isEmpty, from(2, api.MaxFields)
	}
	return s
}

// exprShape takes the Num, too: by it an operator has its Kids.
func exprShape(kind int, num int64) shape {
	s := anyKind()
	switch kind {
	case api.ExInt:
		s.name, s.num = isEmpty, from(-maxNum, maxNum)
	case api.ExBytes:
		s.name, s.bytes = isEmpty, from(0, api.MaxBytes)
	case api.ExVar:
		s.name = isVar
	case api.ExCon:
		s.name, s.kids = isGreat, from(0, api.MaxFields)
	case api.ExTuple:
		s.name, s.kids = isEmpty, from(2, api.MaxFields)
	case api.ExCall:
		s.name, s.kids = isOfFun, from(1, api.MaxParams)
	case api.ExLet:
		s.name, s.kids = isSmall, just(2)
	case api.ExIf:
		s.name, s.kids = isEmpty, just(3)
	case api.ExMatch:
		s.name, s.kids, s.arms = isEmpty, just(1), from(1, api.MaxArms)
	case api.ExOp:
		s.name, s.num, s.kids = isEmpty, from(api.OpAdd, api.OpCut), just(operands(num))
	case api.ExFor:
		s.name, s.num, s.kids = isSmall, from(0, api.MaxTimes), just(2)
	}
	return s
}

func operands(op int64) int64 {
	switch op {
	case api.OpLen:
		return 1
	case api.OpCut:
		return 3
	}
	return 2
}

func fitType(t api.Type, depth int) bool {
	s := typeShape(t.Kind)
	return depth > 0 && s.name(t.Name) && s.kids.many(len(t.Parts)) &&
		all(t.Parts, func(part api.Type) bool { return fitType(part, depth-1) })
}

func fitPat(p api.Pat, depth int) bool {
	s := patShape(p.Kind)
	return depth > 0 && s.name(p.Name) && s.num.has(p.Num) && s.kids.many(len(p.Kids)) &&
		all(p.Kids, func(kid api.Pat) bool { return fitPat(kid, depth-1) })
}

func fitExpr(e api.Expr, depth int) bool {
	s := exprShape(e.Kind, e.Num)
	return depth > 0 && s.name(e.Name) && s.num.has(e.Num) &&
		s.bytes.many(len(e.Bytes)) && s.kids.many(len(e.Kids)) && s.arms.many(len(e.Arms)) &&
		all(e.Kids, func(kid api.Expr) bool { return fitExpr(kid, depth-1) }) &&
		all(e.Arms, func(arm api.Arm) bool { return fitPat(arm.Pat, depth-1) && fitExpr(arm.Body, depth-1) })
}

func fitCon(c api.Con) bool {
	return isGreat(c.Name) && len(c.Fields) <= api.MaxFields && all(c.Fields, FitType)
}

func fitData(d api.Data) bool {
	return isOfData(d.Name) && from(1, api.MaxCons).many(len(d.Cons)) && all(d.Cons, fitCon)
}

func fitParam(p api.Param) bool { return isSmall(p.Name) && FitType(p.Type) }

func fitFun(f api.Fun) bool {
	return isOfFun(f.Name) && from(1, api.MaxParams).many(len(f.Params)) && all(f.Params, fitParam) &&
		FitType(f.Result) && FitExpr(f.Body)
}

func fitHand(h api.Hand) bool {
	return isSmall(h.Name) && fitParam(h.Param) && from(0, api.MaxLoad).many(h.Cap) && FitExpr(h.Body)
}
