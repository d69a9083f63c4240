package bound

import (
	"slices"

	"handloom/api"
	"handloom/ty"
)

// name is one that is given, its type, and the size of what it has. Of a flat type that is never asked: expressions of such have none.
type name struct {
	name string
	of   api.Type
	size api.Poly
}

// names is those that stand around an expression, the inner ones behind.
type names []name

// find is what a name is: what is given further in counts.
func (l names) find(of string) name {
	for _, n := range slices.Backward(l) {
		if n.name == of {
			return n
		}
	}
	return name{}
}

// param is a parameter, whose size is an unknown.
func param(k int, p api.Param) name { return name{p.Name, p.Type, unknown(k)} }

// params is parameters whose sizes are the unknowns of their places.
func params(l ...api.Param) names {
	var made names
	for k, p := range l {
		made = append(made, param(k, p))
	}
	return made
}

// given is names, and behind them those that a pattern gives of a type's values: none has more words than the whole. Their types are found on the pattern's ways alone, as a type may have far more parts than there is room for.
func (r *reckoner) given(l names, p *api.Pat, of api.Type, size api.Poly) names {
	parts := of.Parts
	switch p.Kind {
	case api.PtVar:
		return append(l, name{p.Name, of, size})
	case api.PtCon:
		data, con, _ := ty.Con(r.types, p.Name)
		parts = r.types[data].Cons[con].Fields
	}
	for at := range p.Kids {
		l = r.given(l, &p.Kids[at], parts[at], size)
	}
	return l
}

// patsOf is how many patterns there are in the arms of an expression itself, with all of their parts.
func patsOf(e *api.Expr) int {
	count := 0
	for at := range e.Arms {
		count += partsOf(&e.Arms[at].Pat)
	}
	return count
}

func partsOf(p *api.Pat) int {
	count := 1
	for at := range p.Kids {
		count += partsOf(&p.Kids[at])
	}
	return count
}
