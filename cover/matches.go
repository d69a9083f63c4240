package cover

import (
	"slices"

	"handloom/api"
	"handloom/ty"
)

// named is a name, and the values of its type.
type named struct {
	name string
	of   space
}

// find is what the last of a name has.
func find(l []named, name string) space {
	for _, n := range slices.Backward(l) {
		if n.name == name {
			return n.of
		}
	}
	return texts{}
}

// matches goes through the expressions of a program with whose names and types nothing is wrong.
type matches struct {
	*types
	list  []api.Data
	funs  []named // with their results
	names []named
	fault api.Fault // the first one
}

func newMatches(p api.Prog) *matches {
	list := ty.Datas(p)
	m := &matches{types: newTypes(list), list: list}
	m.funs = each(p.Funs, func(f api.Fun) named { return named{f.Name, m.of(f.Result)} })
	return m
}

func (m *matches) param(p api.Param) named { return named{p.Name, m.of(p.Type)} }

func (m *matches) prog(p api.Prog) {
	for _, f := range p.Funs {
		m.within(each(f.Params, m.param), f.Body)
	}
	m.expr(p.Init)
	for _, h := range p.Hands {
		m.within([]named{{"state", m.of(p.State)}, m.param(h.Param)}, h.Body)
	}
}

// within goes through an expression for which names more are given.
func (m *matches) within(l []named, e api.Expr) space {
	count := len(m.names)
	m.names = append(m.names, l...)
	of := m.expr(e)
	m.names = m.names[:count]
	return of
}

// expr goes through an expression: it is all values of its type.
func (m *matches) expr(e api.Expr) space {
	switch e.Kind {
	case api.ExLet, api.ExFor:
		first := m.expr(e.Kids[0])
		return m.within([]named{{e.Name, first}}, e.Kids[1])
	}
	kids := each(e.Kids, m.expr)
	switch e.Kind {
	case api.ExBytes:
		return texts{}
	case api.ExVar:
		return find(m.names, e.Name)
	case api.ExCon:
		at, _, _ := ty.Con(m.list, e.Name)
		return choice{form: m.forms[at]}
	case api.ExTuple:
		return m.tuple(kids)
	case api.ExCall:
		return find(m.funs, e.Name)
	case api.ExIf:
		return kids[1]
	case api.ExMatch:
		return m.match(kids[0], e)
	case api.ExOp:
		return m.operator(e.Num)
	}
	return numbers{m.types}
}

// operator is all values that an operator tells.
func (m *matches) operator(op int64) space {
	switch op {
	case api.OpLt, api.OpLe, api.OpEq:
		return m.of(api.Type{Kind: api.TyData, Name: "bool"})
	case api.OpCat, api.OpCut:
		return texts{}
	}
	return numbers{m.types}
}

// match goes through the arms: all of their Bodies are of one type.
func (m *matches) match(of space, e api.Expr) space {
	if m.fault.Err == api.OK {
		m.fault = m.wrong(of, e)
	}
	var told space
	for _, arm := range e.Arms {
		told = m.within(given(nil, of, &arm.Pat), arm.Body)
	}
	return told
}

// wrong is what is wrong with a match itself.
func (m *matches) wrong(of space, e api.Expr) api.Fault {
	count := 0
	for _, arm := range e.Arms {
		count += parts(arm.Pat)
	}
	if count > api.MaxPats {
		return api.Fault{Err: api.ErrMany, At: e.At}
	}
	pats := each(e.Arms, func(arm api.Arm) api.Pat { return arm.Pat })
	if at := m.spare(of, pats); at >= 0 {
		return api.Fault{Err: api.ErrSpare, At: pats[at].At}
	}
	if _, ok := m.missing(of, pats); ok {
		return api.Fault{Err: api.ErrCover, At: e.At}
	}
	return api.Fault{}
}

// parts is how many patterns a pattern is, with all of its parts.
func parts(p api.Pat) int {
	count := 1
	for _, kid := range p.Kids {
		count += parts(kid)
	}
	return count
}

// given is names, and behind them those that a pattern gives of a type's values.
func given(l []named, of space, p *api.Pat) []named {
	if p.Kind == api.PtVar {
		return append(l, named{p.Name, of})
	}
	if c, ok := of.(choice); ok && len(p.Kids) > 0 {
		r := c.records[c.which(p)]
		for at := range p.Kids {
			l = given(l, r.kids[at], &p.Kids[at])
		}
	}
	return l
}
