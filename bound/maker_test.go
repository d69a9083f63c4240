package bound_test

import (
	"slices"
	"strconv"
	"testing"

	"handloom/api"
	"handloom/check"
	"handloom/cover"
	"handloom/ty"
)

// maker makes programs in which nothing is wrong but, now and then, what they cost.
type maker struct {
	*sower
	all  []api.Data
	funs []api.Fun // those that may be called
	wild int       // of so many parts one may be any where else what grows is kept small

	self api.Fun // the function whose Body is made, if it has a name
	by   int     // it goes down by this parameter
}

func newMaker(t *testing.T, s *sower) *maker {
	t.Helper()
	return &maker{sower: s, all: ty.Datas(prog(t, house+start))}
}

// known is a name with its type: down is 1 of the parameter by which the function goes down, 2 of what is lesser.
type known struct {
	api.Param
	down int
}

func behind(env []known, more ...known) []known { return slices.Concat(env, more) }

// among is the names that fit, of those that nothing gives anew.
func among(env []known, fits func(k known) bool) []known {
	var l []known
	for at, k := range env {
		if fits(k) && !slices.ContainsFunc(env[at+1:], func(other known) bool { return other.Name == k.Name }) {
			l = append(l, k)
		}
	}
	return l
}

func (m *maker) aType() api.Type {
	return pick(m.sower, number(), number(), bytesType(), data("bool"), data("color"), data("list"), data("list"), data("list"), data("tree"), data("wrap"), data("rose"), data("both"), data("note"), tuple(number(), data("list"), bytesType()))
}

func (m *maker) aName() string { return pick(m.sower, "x", "y", "z", "a", "b", "p0") }

func (m *maker) consOf(name string) []api.Con { return m.all[ty.Find(m.all, name)].Cons }

func (m *maker) aNumber() int64 {
	return pick[int64](m.sower, 0, 1, 2, -1, 3, 64, 1000003, 1<<62-1, 1-1<<62)
}

// least is a short expression of a type.
func (m *maker) least(t api.Type, env []known) api.Expr {
	may := among(env, func(k known) bool { return ty.Same(k.Type, t) })
	if len(may) > 0 && m.below(4) > 0 {
		return variable(pick(m.sower, may...).Name)
	}
	kids := func(l []api.Type) []api.Expr {
		var made []api.Expr
		for _, part := range l {
			made = append(made, m.least(part, env))
		}
		return made
	}
	switch t.Kind {
	case api.TyInt:
		return num(m.aNumber())
	case api.TyBytes:
		return quoted(m.bytes(pick(m.sower, 0, 2, 9, 64)))
	case api.TyTuple:
		return row(kids(t.Parts)...)
	}
	c := m.consOf(t.Name)[0]
	return conOf(c.Name, kids(c.Fields)...)
}

// expr is an expression of a type; may tells whether a call of the function itself may stand in it.
func (m *maker) expr(t api.Type, env []known, depth int, may bool) api.Expr {
	if may && m.below(3) > 0 {
		if e, ok := m.again(t, env, depth); ok {
			return e
		}
	}
	if depth <= 1 {
		return m.least(t, env)
	}
	first := may && m.below(2) == 0
	second := may && !first
	switch m.below(12) {
	case 0, 1:
		of, name := m.aType(), m.aName()
		return let(name, m.expr(of, env, depth-1, first), m.expr(t, behind(env, known{param(name, of), 0}), depth-1, second))
	case 2:
		return choose(m.expr(data("bool"), env, depth-1, first), m.expr(t, env, depth-1, second), m.expr(t, env, depth-1, second))
	case 3, 4:
		return m.loop(t, env, depth, may)
	case 5, 6, 7:
		return m.called(t, env, depth, may)
	case 8, 9:
		return m.match(t, env, depth, first, second)
	}
	return m.built(t, env, depth, may)
}

// each is expressions of types, one of which may have a call of the function itself.
func (m *maker) each(l []api.Type, env []known, depth int, may bool) []api.Expr {
	which := m.below(len(l) + 1)
	var made []api.Expr
	for at, t := range l {
		made = append(made, m.expr(t, env, depth-1, may && at == which))
	}
	return made
}

// again is a call of the function itself.
func (m *maker) again(t api.Type, env []known, depth int) (api.Expr, bool) {
	of := m.self.Params[m.by].Type
	lesser := among(env, func(k known) bool { return k.down == 2 && ty.Same(k.Type, of) })
	if len(lesser) == 0 || !ty.Same(m.self.Result, t) {
		return api.Expr{}, false
	}
	e := call(m.self.Name)
	for at, p := range m.self.Params {
		if at == m.by {
			e.Kids = append(e.Kids, variable(pick(m.sower, lesser...).Name))
			continue
		}
		e.Kids = append(e.Kids, m.handed(p, env, depth))
	}
	return e, true
}

func (m *maker) goesWild() bool { return m.below(m.wild) == 0 }

// handed is what a function hands to itself for a parameter: mostly that, or what is somewhat greater.
func (m *maker) handed(p api.Param, env []known, depth int) api.Expr {
	same := among(env, func(k known) bool { return k.Name == p.Name && ty.Same(k.Type, p.Type) })
	if len(same) == 0 || m.goesWild() {
		return m.expr(p.Type, env, min(depth-1, 2), false)
	}
	e := variable(p.Name)
	switch p.Type.Name {
	case "list":
		return pick(m.sower, e, conOf("Cons", num(1), e), conOf("Nil"))
	case "note":
		return pick(m.sower, e, conOf("Note", quoted(m.bytes(9)), e), conOf("Blank"))
	case "tree":
		return pick(m.sower, e, conOf("Node", e, num(1), conOf("Leaf")), conOf("Leaf"))
	}
	return e
}

// loop is mostly one in which what its name has grows by little.
func (m *maker) loop(t api.Type, env []known, depth int, may bool) api.Expr {
	name, often := m.aName(), pick[int64](m.sower, 0, 1, 2, 3, 7, 30)
	first := m.expr(t, env, depth-1, may)
	own := behind(env, known{param(name, t), 0})
	e := variable(name)
	switch {
	case m.goesWild():
		return loop(often, name, first, m.expr(t, own, depth-1, false))
	case t.Name == "list":
		e = conOf("Cons", m.expr(number(), own, depth-1, false), e)
	case t.Name == "note":
		e = conOf("Note", m.expr(bytesType(), own, depth-2, false), e)
	case t.Name == "tree":
		e = conOf("Node", conOf("Leaf"), num(1), e)
	case t.Kind != api.TyTuple:
		e = m.expr(t, own, depth-1, false)
	}
	return loop(often, name, first, e)
}

func (m *maker) built(t api.Type, env []known, depth int, may bool) api.Expr {
	n, b := number(), bytesType()
	do := func(which int64, l ...api.Type) api.Expr { return op(which, m.each(l, env, depth, may)...) }
	switch {
	case t.Kind == api.TyInt:
		return pick(m.sower, do(int64(m.below(5)), n, n), do(api.OpLen, b), do(api.OpAt, b, n))
	case t.Kind == api.TyBytes:
		return pick(m.sower, do(api.OpCat, b, b), do(api.OpCat, b, b), do(api.OpCut, b, n, n))
	case t.Kind == api.TyTuple:
		return row(m.each(t.Parts, env, depth, may)...)
	case t.Name == "bool":
		return do(api.OpLt+int64(m.below(3)), n, n)
	}
	c := pick(m.sower, m.consOf(t.Name)...)
	return conOf(c.Name, m.each(c.Fields, env, depth, may)...)
}

// called is another function that tells a type, if there is one.
func (m *maker) called(t api.Type, env []known, depth int, may bool) api.Expr {
	fits := slices.DeleteFunc(slices.Clone(m.funs), func(f api.Fun) bool { return !ty.Same(f.Result, t) })
	if len(fits) == 0 {
		return m.built(t, env, depth, may)
	}
	f := pick(m.sower, fits...)
	var l []api.Type
	for _, p := range f.Params {
		l = append(l, p.Type)
	}
	return call(f.Name, m.each(l, env, depth, may)...)
}

// match is mostly of a name that goes down.
func (m *maker) match(t api.Type, env []known, depth int, first, second bool) api.Expr {
	names := among(env, func(k known) bool { return k.down > 0 && k.Type.Kind >= api.TyData })
	var e api.Expr
	var of known
	if len(names) > 0 && m.below(5) > 0 {
		of = pick(m.sower, names...)
		e = match(variable(of.Name))
		second = second || first
	} else {
		of.Type = m.aType()
		e = match(m.expr(of.Type, env, depth-1, first))
	}
	for _, p := range m.pats(of.Type) {
		given, _ := check.Binds(m.all, p, of.Type)
		own := env
		for _, param := range given {
			k := known{param, 0}
			if of.down > 0 && p.Kind != api.PtVar {
				k.down = 2
			}
			own = behind(own, k)
		}
		e.Arms = append(e.Arms, arm(p, m.expr(t, own, depth-1, second)))
	}
	return e
}

// pats is patterns that take all of a type, each of use.
func (m *maker) pats(of api.Type) []api.Pat {
	for {
		l := m.covering(of, 1+m.below(3))
		if cover.Spare(m.all, of, l) < 0 {
			return l
		}
	}
}

// hole is a part of a pattern that asks nothing, and the type of which it takes all.
type hole struct {
	at *api.Pat
	of api.Type
}

func (m *maker) holes(l []hole, p *api.Pat, t api.Type) []hole {
	fields := t.Parts
	switch p.Kind {
	case api.PtInt:
		return l
	case api.PtAny, api.PtVar:
		return append(l, hole{p, t})
	case api.PtCon:
		for _, c := range m.consOf(t.Name) {
			if c.Name == p.Name {
				fields = c.Fields
			}
		}
	}
	for at := range p.Kids {
		l = m.holes(l, &p.Kids[at], fields[at])
	}
	return l
}

// fillings is what may stand in a hole: together they take all that it takes.
func (m *maker) fillings(of api.Type) []api.Pat {
	switch of.Kind {
	case api.TyInt:
		return []api.Pat{numPat(m.aNumber()), anyPat()}
	case api.TyBytes:
		return []api.Pat{anyPat()}
	case api.TyTuple:
		return []api.Pat{rowPat(make([]api.Pat, len(of.Parts))...)}
	}
	var l []api.Pat
	for _, c := range m.consOf(of.Name) {
		l = append(l, conPat(c.Name, make([]api.Pat, len(c.Fields))...))
	}
	return l
}

// covering is patterns that take all of a type, made of one that does by filling so many holes; most holes that are left have names.
func (m *maker) covering(t api.Type, steps int) []api.Pat {
	l := make([]api.Pat, 1)
	for range steps {
		at := m.below(len(l))
		if h := m.holes(nil, &l[at], t); len(h) > 0 {
			which := m.below(len(h))
			var made []api.Pat
			for _, filling := range m.fillings(h[which].of) {
				p := twin(l[at])
				*m.holes(nil, &p, t)[which].at = filling
				made = append(made, p)
			}
			l = slices.Replace(l, at, at+1, made...)
		}
	}
	for at := range l {
		for n, h := range m.holes(nil, &l[at], t) {
			if m.below(5) > 0 {
				*h.at = varPat(pick(m.sower, "v", "w") + strconv.Itoa(n))
			}
		}
	}
	return l
}

// fun is a function behind those that there are.
func (m *maker) fun() api.Fun {
	f := api.Fun{Name: "f" + strconv.Itoa(len(m.funs)), Result: pick(m.sower, data("list"), data("list"), data("tree"), data("note"), number(), m.aType())}
	for i := range pick(m.sower, 1, 2, 2, 3, 3) {
		f.Params = append(f.Params, param("p"+strconv.Itoa(i), pick(m.sower, data("list"), data("list"), data("list"), data("tree"), data("note"), m.aType())))
	}
	m.self, m.by = f, m.below(len(f.Params))
	switch f.Params[m.by].Type.Name {
	case "list", "tree", "note":
		f.Body = m.descent(m.below(7))
	default:
		f.Body = m.expr(f.Result, m.params(), 4, true)
	}
	return f
}

// descent is a Body that calls the function itself for a part of its parameter.
func (m *maker) descent(way int) api.Expr {
	by, env := m.self.Params[m.by], m.params()
	part := "r"
	c := m.consOf(by.Type.Name)[1]
	p := conPat(c.Name, make([]api.Pat, len(c.Fields))...)
	p.Kids[len(p.Kids)-1] = varPat(part)
	env = behind(env, known{param(part, by.Type), 2})
	again, _ := m.again(m.self.Result, env, 3)
	var e api.Expr
	switch of := m.self.Result; {
	case way == 0:
		e = m.expr(of, env, 4, true)
	case way == 1:
		e = let("y", again, m.expr(of, behind(env, known{param("y", of), 0}), 3, false))
	case way == 2:
		e = loop(int64(m.below(4)), "y", again, m.expr(of, behind(env, known{param("y", of), 0}), 2, false))
	case way == 3:
		e = let("y", m.called(of, env, 3, false), again)
	case of.Name == "list":
		e = conOf("Cons", m.expr(number(), env, 3, false), again)
	case of.Name == "note":
		e = conOf("Note", m.expr(bytesType(), env, 2, false), again)
	case of.Name == "tree":
		e = conOf("Node", again, m.expr(number(), env, 3, false), m.expr(of, env, 2, false))
	default:
		e = choose(m.expr(data("bool"), env, 2, false), again, m.expr(of, env, 2, false))
	}
	return match(variable(by.Name), arm(p, e), arm(anyPat(), m.expr(m.self.Result, m.params(), 3, false)))
}

func (m *maker) params() []known {
	var l []known
	for at, p := range m.self.Params {
		k := known{p, 0}
		if at == m.by {
			k.down = 1
		}
		l = append(l, k)
	}
	return l
}

// prog is a program, with types that are house's.
func (m *maker) prog() api.Prog {
	p := api.Prog{Datas: m.all[2:], Queue: 1, State: m.aType()}
	m.funs = nil
	for range 1 + m.below(6) {
		m.funs = append(m.funs, m.fun())
	}
	p.Funs = m.funs
	p.Init = m.expr(p.State, nil, 4, false)
	for i := range m.below(3) {
		h := api.Hand{Name: "h" + strconv.Itoa(i), Param: param(m.aName(), m.aType()), Cap: m.below(65)}
		env := []known{{param("state", p.State), 0}, {h.Param, 0}}
		h.Body = m.expr(tuple(p.State, data("act")), env, 4, false)
		p.Hands = append(p.Hands, h)
	}
	return p
}

// aValue is of a type, and mostly not deeper than so much.
func (m *maker) aValue(t api.Type, depth int) api.Value {
	switch t.Kind {
	case api.TyInt:
		return api.Value{Num: m.aNumber()}
	case api.TyBytes:
		return api.Value{Kind: api.VaBytes, Bytes: m.bytes(pick(m.sower, 3, 64))}
	case api.TyTuple:
		return api.Value{Kind: api.VaTuple, Kids: m.values(t.Parts, depth)}
	}
	cons := m.consOf(t.Name)
	c := cons[0]
	if depth > 0 && m.below(6) > 0 {
		c = pick(m.sower, cons[len(cons)-1], pick(m.sower, cons...))
	}
	return api.Value{Kind: api.VaCon, Name: c.Name, Kids: m.values(c.Fields, depth)}
}

func (m *maker) values(l []api.Type, depth int) []api.Value {
	var made []api.Value
	for _, t := range l {
		made = append(made, m.aValue(t, depth-1))
	}
	return made
}

// argsFor is values for parameters.
func (m *maker) argsFor(l []api.Param) []api.Value {
	var args []api.Value
	for _, p := range l {
		args = append(args, m.aValue(p.Type, 6))
	}
	return args
}
