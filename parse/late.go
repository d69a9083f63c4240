package parse

import "handloom/api"

// later keeps a fault until all is read, when the first one from the left is told.
func (r *reader) later(err api.Errno, at api.Pos) {
	if r.late.Err == api.OK || ahead(at, r.late.At) {
		r.late = api.Fault{Err: err, At: at}
	}
}

func ahead(a, b api.Pos) bool { return a.Line < b.Line || a.Line == b.Line && a.Col < b.Col }

// deeper is how deep a part is whose own parts are so deep.
func (r *reader) deeper(depth int, at api.Pos) int {
	depth++
	if depth > api.MaxDepth {
		r.later(api.ErrDeep, at)
	}
	return depth
}

// exprDepth looks through an expression that is read, and is how deep it is.
func (r *reader) exprDepth(e api.Expr) int {
	// ahead of its depth: of two faults at one place the first one that is named is told
	if e.Kind == api.ExOp && len(e.Kids) != operands(e.Num) {
		r.later(api.ErrCount, e.At)
	}
	depth := 0
	for _, kid := range e.Kids {
		depth = max(depth, r.exprDepth(kid))
	}
	for _, arm := range e.Arms {
		depth = max(depth, r.patDepth(arm.Pat), r.exprDepth(arm.Body))
	}
	return r.deeper(depth, e.At)
}

func (r *reader) patDepth(p api.Pat) int {
	depth := 0
	for _, kid := range p.Kids {
		depth = max(depth, r.patDepth(kid))
	}
	return r.deeper(depth, p.At)
}

// typeDepth has no places to tell: parts of a type stand behind where it begins, and are less deep.
func typeDepth(t api.Type) int {
	depth := 0
	for _, part := range t.Parts {
		depth = max(depth, typeDepth(part))
	}
	return depth + 1
}

// operands is how many parts an operator has.
func operands(op int64) int {
	switch op {
	case api.OpLen:
		return 1
	case api.OpCut:
		return 3
	}
	return 2
}
