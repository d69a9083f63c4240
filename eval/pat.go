package eval

import (
	"handloom/api"
	"handloom/cover"
)

// patsOf is how many patterns there are in the arms of an expression itself, with all of their parts.
func patsOf(e *api.Expr) int {
	count := 0
	for at := range e.Arms {
		count += partsOf(&e.Arms[at].Pat)
	}
	return count
}

func partsOf(p *api.Pat) int {
	count := 1
	for at := range p.Kids {
		count += partsOf(&p.Kids[at])
	}
	return count
}

// taken is the names that a pattern gives of a value that it takes; false: it does not. The value's outline alone is held against it, as of a value equal parts share memory: there may be more of them than could be copied.
func taken(p *api.Pat, v api.Value) ([]api.Bind, bool) {
	var left leftOut
	given, ok := cover.Takes(*p, left.outline(p, v))
	for at := range given {
		given[at].Value = left[at]
	}
	return given, ok
}

// leftOut is the values that a pattern's names are to have, from the left.
type leftOut []api.Value

// outline is as much of a value as a pattern asks for.
func (l *leftOut) outline(p *api.Pat, v api.Value) api.Value {
	switch p.Kind {
	case api.PtVar:
		*l = append(*l, v)
		return api.Value{}
	case api.PtAny:
		return api.Value{}
	}
	made := api.Value{Kind: v.Kind, Num: v.Num, Name: v.Name}
	// of other records the names differ, so that it is the same how many Kids are left
	for at := range min(len(p.Kids), len(v.Kids)) {
		made.Kids = append(made.Kids, l.outline(&p.Kids[at], v.Kids[at]))
	}
	return made
}
