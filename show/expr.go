package show

import "handloom/api"

// How tight an operator holds its parts; one that has a name holds them by parentheses of its own.
const (
	named     = 0
	comparing = 1
	summing   = 2
	timing    = 3
)

// operator is how one is written.
type operator struct {
	text string
	rank int
}

func operatorOf(op int64) operator {
	return [api.NumOps]operator{
		api.OpAdd: {"+", summing}, api.OpSub: {"-", summing},
		api.OpMul: {"*", timing}, api.OpDiv: {"/", timing}, api.OpMod: {"%", timing},
		api.OpLt: {"<", comparing}, api.OpLe: {"<=", comparing}, api.OpEq: {"==", comparing},
		api.OpLen: {"len", named}, api.OpAt: {"at", named}, api.OpCat: {"cat", named}, api.OpCut: {"cut", named},
	}[op]
}

func expr(e api.Expr) part {
	switch e.Kind {
	case api.ExInt:
		return number(e.Num)
	case api.ExBytes:
		return token{Kind: api.TkText, Bytes: e.Bytes}
	case api.ExTuple:
		return inside(list(",", e.Kids, expr))
	case api.ExOp:
		return operation(e)
	case api.ExLet, api.ExIf, api.ExMatch, api.ExFor:
		return clause{words(e)}
	}
	return holds(e.Name, e.Kids, expr)
}

// words is an expression between words of the language.
func words(e api.Expr) row {
	kid := func(i int) part { return expr(e.Kids[i]) }
	switch e.Kind {
	case api.ExLet:
		return row{mark("let"), mark(e.Name), mark("="), kid(0), mark("in"), kid(1)}
	case api.ExIf:
		return row{mark("if"), kid(0), mark("then"), kid(1), mark("else"), kid(2)}
	case api.ExMatch:
		return row{mark("match"), kid(0), mark("with"), list("|", e.Arms, arm), mark("end")}
	}
	return row{mark("for"), number(e.Num), mark("with"), mark(e.Name), mark("="), kid(0), mark("do"), kid(1)}
}

func arm(a api.Arm) part { return row{pat(a.Pat), mark("->"), expr(a.Body)} }

func operation(e api.Expr) part {
	op := operatorOf(e.Num)
	if op.rank == named {
		return holds(op.text, e.Kids, expr)
	}
	// a row of one rank goes from the left, but one of comparisons is none
	left, right := op.rank, op.rank+1
	if op.rank == comparing {
		left = right
	}
	return signed{row{within(e.Kids[0], left), mark(op.text), within(e.Kids[1], right)}, op.rank}
}

// within is an expression that is part of a sign's, which wants no operator of a rank lower than the least.
func within(e api.Expr, least int) part {
	switch p := expr(e).(type) {
	case clause:
		return inside(p)
	case signed:
		if p.rank < least {
			return inside(p)
		}
		return p
	default:
		return p
	}
}

func pat(p api.Pat) part {
	switch p.Kind {
	case api.PtAny:
		return mark("_")
	case api.PtInt:
		return number(p.Num)
	case api.PtTuple:
		return inside(list(",", p.Kids, pat))
	}
	return holds(p.Name, p.Kids, pat)
}
