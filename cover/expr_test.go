package cover_test

import (
	"slices"
	"strconv"

	"handloom/api"
	"handloom/check"
	"handloom/ty"
)

// least is a short expression of a type.
func (m *maker) least(t api.Type, env []api.Param) api.Expr {
	for _, p := range slices.Backward(env) {
		if ty.Same(p.Type, t) && m.below(3) > 0 && lastOf(env, p.Name) {
			return variable(p.Name)
		}
	}
	kids := func(l []api.Type) []api.Expr {
		var made []api.Expr
		for _, part := range l {
			made = append(made, m.least(part, env))
		}
		return made
	}
	switch t.Kind {
	case api.TyInt:
		return num(int64(m.below(3)))
	case api.TyBytes:
		return api.Expr{Kind: api.ExBytes, Bytes: []byte("a")}
	case api.TyTuple:
		return row(kids(t.Parts)...)
	}
	c := m.consOf(t.Name)[0]
	return api.Expr{Kind: api.ExCon, Name: c.Name, Kids: kids(c.Fields)}
}

// lastOf tells whether a name stands in a list once.
func lastOf(env []api.Param, name string) bool {
	count := 0
	for _, p := range env {
		if p.Name == name {
			count++
		}
	}
	return count == 1
}

func (m *maker) aName() string { return pick(m.sower, "x0", "x1", "y", "z", "list") }

// expr is an expression of a type, with matches in it.
func (m *maker) expr(t api.Type, env []api.Param, depth int) api.Expr {
	if depth <= 1 {
		return m.least(t, env)
	}
	kid := func(t api.Type) api.Expr { return m.expr(t, env, depth-1) }
	with := func(of api.Type, name string) api.Expr {
		return m.expr(t, behind(env, param(name, of)), depth-1)
	}
	switch m.below(8) {
	case 0:
		return m.built(t, kid)
	case 1:
		return m.called(t, kid)
	case 2:
		of, name := m.aType(), m.aName()
		return let(name, kid(of), with(of, name))
	case 3:
		return choose(kid(data("bool")), kid(t), kid(t))
	case 4:
		name := m.aName()
		return loop(int64(m.below(1001)), name, kid(t), with(t, name))
	}
	return m.matched(t, env, depth)
}

// built is of parts, or an operator's.
func (m *maker) built(t api.Type, kid func(t api.Type) api.Expr) api.Expr {
	var kids []api.Expr
	op := func(n int64, l ...api.Type) api.Expr {
		for _, of := range l {
			kids = append(kids, kid(of))
		}
		return api.Expr{Kind: api.ExOp, Num: n, Kids: kids}
	}
	switch {
	case t.Kind == api.TyInt && m.below(2) == 0:
		return op(api.OpAt, text(), number())
	case t.Kind == api.TyInt:
		return op(int64(m.below(5)), number(), number())
	case t.Kind == api.TyBytes && m.below(2) == 0:
		return op(api.OpCut, text(), number(), number())
	case t.Kind == api.TyBytes:
		return op(api.OpCat, text(), text())
	case t.Name == "bool":
		return op(api.OpLt+int64(m.below(3)), number(), number())
	case t.Kind == api.TyTuple:
		e := op(0, t.Parts...)
		return row(e.Kids...)
	}
	c := pick(m.sower, m.consOf(t.Name)...)
	return api.Expr{Kind: api.ExCon, Name: c.Name, Kids: op(0, c.Fields...).Kids}
}

// called is a function that tells a type, if there is one.
func (m *maker) called(t api.Type, kid func(t api.Type) api.Expr) api.Expr {
	may := slices.DeleteFunc(slices.Clone(m.funs), func(f api.Fun) bool { return !ty.Same(f.Result, t) })
	if len(may) == 0 {
		return m.built(t, kid)
	}
	f := pick(m.sower, may...)
	e := api.Expr{Kind: api.ExCall, Name: f.Name}
	for _, p := range f.Params {
		e.Kids = append(e.Kids, kid(p.Type))
	}
	return e
}

// matched is a match whose patterns take all, each of use, if nothing slips.
func (m *maker) matched(t api.Type, env []api.Param, depth int) api.Expr {
	of := m.aType()
	l := m.rightPats(of)
	if m.slips() {
		l = m.spoilt(l, of)
	}
	if len(l) == 0 {
		l = blanks(1)
	}
	e := match(m.expr(of, env, depth-1))
	for _, p := range m.withNames(l) {
		names, _ := check.Binds(m.all, p, of)
		e.Arms = append(e.Arms, arm(p, m.expr(t, behind(env, names...), depth-1)))
	}
	return e
}

func (m *maker) rightPats(of api.Type) []api.Pat {
	for {
		l := m.covering(of, m.below(4))
		if _, spare := newReading(m.all).want(of, l); spare < 0 && len(l) <= api.MaxArms && count(l) <= api.MaxPats {
			return l
		}
	}
}

// prog is a program, with types that are house's.
func (m *maker) prog() api.Prog {
	p := api.Prog{Datas: m.all[2:], Queue: 1, State: m.aType()}
	m.funs = nil
	for i := range m.below(3) {
		f := api.Fun{Name: "f" + strconv.Itoa(i), Result: m.aType(), Params: []api.Param{param("p", m.aType()), param("q", m.aType())}}
		m.funs = append(m.funs, f)
		f.Body = m.expr(f.Result, f.Params, 4)
		p.Funs = append(p.Funs, f)
	}
	p.Init = m.expr(p.State, nil, 4)
	for i := range m.below(3) {
		h := api.Hand{Name: "h" + strconv.Itoa(i), Param: param("p", m.aType())}
		h.Body = m.expr(tuple(p.State, data("act")), []api.Param{param("state", p.State), h.Param}, 4)
		p.Hands = append(p.Hands, h)
	}
	return p
}
