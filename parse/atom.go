package parse

import "handloom/api"

func (r *reader) atom() api.Expr {
	t := r.next()
	switch {
	case t.Kind == api.TkNum || r.stands("~"):
		return api.Expr{Kind: api.ExInt, At: t.At, Num: r.number()}
	case t.Kind == api.TkText:
		return api.Expr{Kind: api.ExBytes, At: t.At, Bytes: r.take().Bytes}
	case r.stands("state"):
		return api.Expr{Kind: api.ExVar, At: t.At, Name: r.take().Text}
	case t.Kind == api.TkLow:
		return r.named()
	case t.Kind == api.TkUp:
		return wholeExpr(api.Expr{Kind: api.ExCon, At: t.At, Name: r.take().Text, Kids: optional(r, r.expr)})
	case r.stands("("):
		return r.several()
	}
	panic(r.unwanted())
}

// named takes a name, and what it is called with.
func (r *reader) named() api.Expr {
	t := r.take()
	if !r.stands("(") {
		return api.Expr{Kind: api.ExVar, At: t.At, Name: t.Text}
	}
	// told ahead of what is wrong within the parentheses
	if isType(t.Text) {
		panic(api.Fault{Err: api.ErrName, At: t.At})
	}
	kids := inside(r, ",", api.MaxParams, r.expr)
	if op, ok := operator(t.Text); ok {
		return wholeExpr(api.Expr{Kind: api.ExOp, At: t.At, Num: op, Kids: kids})
	}
	return wholeExpr(api.Expr{Kind: api.ExCall, At: t.At, Name: t.Text, Kids: kids})
}

// several takes expressions in parentheses; one alone is itself.
func (r *reader) several() api.Expr {
	at := r.next().At
	kids := inside(r, ",", api.MaxFields, r.expr)
	if len(kids) == 1 {
		return kids[0]
	}
	return wholeExpr(api.Expr{Kind: api.ExTuple, At: at, Kids: kids})
}

func (r *reader) pat() api.Pat {
	t := r.next()
	switch {
	case t.Kind == api.TkNum || r.stands("~"):
		return api.Pat{Kind: api.PtInt, At: t.At, Num: r.number()}
	case t.Kind == api.TkLow:
		return api.Pat{Kind: api.PtVar, At: t.At, Name: r.take().Text}
	case t.Kind == api.TkUp:
		return wholePat(api.Pat{Kind: api.PtCon, At: t.At, Name: r.take().Text, Kids: optional(r, r.pat)})
	case r.stands("("):
		return r.severalPats()
	}
	r.want("_")
	return api.Pat{Kind: api.PtAny, At: t.At}
}

// severalPats takes patterns in parentheses; one alone is itself.
func (r *reader) severalPats() api.Pat {
	at := r.next().At
	kids := inside(r, ",", api.MaxFields, r.pat)
	if len(kids) == 1 {
		return kids[0]
	}
	return wholePat(api.Pat{Kind: api.PtTuple, At: at, Kids: kids})
}

// optional takes parts in parentheses, if these stand here.
func optional[T any](r *reader, part func() T) []T {
	if !r.stands("(") {
		return nil
	}
	return inside(r, ",", api.MaxFields, part)
}
