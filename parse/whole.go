package parse

import "handloom/api"

// wholeExpr is an expression of which all is read: what is wrong with it as a whole is thrown here, ahead of what is wrong behind it.
func wholeExpr(e api.Expr) api.Expr {
	// ahead of its depth: of two faults of one part the first one that is named is told
	if e.Kind == api.ExOp && len(e.Kids) != operands(e.Num) {
		panic(api.Fault{Err: api.ErrCount, At: e.At})
	}
	limitDepth(exprDepth(e), e.At)
	return e
}

func wholePat(p api.Pat) api.Pat {
	limitDepth(patDepth(p), p.At)
	return p
}

// wholeType is told where the type begins, as a type has no place of its own.
func wholeType(t api.Type, at api.Pos) api.Type {
	limitDepth(typeDepth(t), at)
	return t
}

func limitDepth(depth int, at api.Pos) {
	if depth > api.MaxDepth {
		panic(api.Fault{Err: api.ErrDeep, At: at})
	}
}

func exprDepth(e api.Expr) int {
	return 1 + max(deepest(e.Kids, exprDepth), deepest(e.Arms, armDepth))
}

// armDepth counts no arm: what it has is part of its match.
func armDepth(a api.Arm) int { return max(patDepth(a.Pat), exprDepth(a.Body)) }

func patDepth(p api.Pat) int { return 1 + deepest(p.Kids, patDepth) }

func typeDepth(t api.Type) int { return 1 + deepest(t.Parts, typeDepth) }

// deepest is how deep the deepest one of parts is; 0, if there is none.
func deepest[T any](l []T, depth func(part T) int) int {
	most := 0
	for _, part := range l {
		most = max(most, depth(part))
	}
	return most
}

// operands is how many parts an operator has.
func operands(op int64) int {
	switch op {
	case api.OpLen:
		return 1
	case api.OpCut:
		return 3
	}
	return 2
}
