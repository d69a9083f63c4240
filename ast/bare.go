package ast

import "handloom/api"

// bareType has no place to lose, but its lists must be new, too.
func bareType(t api.Type) api.Type {
	t.Parts = each(t.Parts, bareType)
	return t
}

func barePat(p api.Pat) api.Pat {
	p.At = api.Pos{}
	p.Kids = each(p.Kids, barePat)
	return p
}

func bareExpr(e api.Expr) api.Expr {
	e.At = api.Pos{}
	e.Bytes = append([]byte(nil), e.Bytes...)
	e.Kids = each(e.Kids, bareExpr)
	e.Arms = each(e.Arms, bareArm)
	return e
}

func bareArm(a api.Arm) api.Arm { return api.Arm{Pat: barePat(a.Pat), Body: bareExpr(a.Body)} }

func bareCon(c api.Con) api.Con {
	c.Fields = each(c.Fields, bareType)
	return c
}

func bareData(d api.Data) api.Data {
	d.At = api.Pos{}
	d.Cons = each(d.Cons, bareCon)
	return d
}

func bareParam(p api.Param) api.Param {
	p.Type = bareType(p.Type)
	return p
}

func bareFun(f api.Fun) api.Fun {
	f.At = api.Pos{}
	f.Params = each(f.Params, bareParam)
	f.Result = bareType(f.Result)
	f.Body = bareExpr(f.Body)
	return f
}

func bareHand(h api.Hand) api.Hand {
	h.At = api.Pos{}
	h.Param = bareParam(h.Param)
	h.Body = bareExpr(h.Body)
	return h
}
