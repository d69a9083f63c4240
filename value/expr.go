package value

import "handloom/api"

// noKind is that of what is no value, or no expression that is one.
const noKind = -1

// exprKinds is the kinds of the expressions that are values, by these' kinds.
var exprKinds = [...]int{api.VaInt: api.ExInt, api.VaBytes: api.ExBytes, api.VaCon: api.ExCon, api.VaTuple: api.ExTuple}

func exprKind(value int) int {
	if value < 0 || value >= len(exprKinds) {
		return noKind
	}
	return exprKinds[value]
}

func valueKind(expr int) int {
	for value, kind := range exprKinds {
		if kind == expr {
			return value
		}
	}
	return noKind
}

func kidsOfExpr(e api.Expr) []api.Expr { return e.Kids }

// newBytes is none of an empty list, as an empty text is read.
func newBytes(l []byte) []byte { return append([]byte(nil), l...) }

// exprOf keeps what a value should not have: by it the expression is not fit either.
func exprOf(v api.Value) api.Expr {
	return api.Expr{Kind: exprKind(v.Kind), Num: v.Num, Bytes: newBytes(v.Bytes), Name: v.Name, Kids: each(v.Kids, exprOf)}
}

// valueOf is the value that an expression is, of which all parts are values.
func valueOf(e api.Expr) api.Value {
	return api.Value{Kind: valueKind(e.Kind), Num: e.Num, Bytes: newBytes(e.Bytes), Name: e.Name, Kids: each(e.Kids, valueOf)}
}
