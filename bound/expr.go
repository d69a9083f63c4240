package bound

import (
	"handloom/api"
	"handloom/ty"
)

// expr goes through an expression.
func (r *reckoner) expr(e *api.Expr) costs {
	c := begun(e)
	r.tell(&c, e)
	if Flat(r.types, c.of) {
		c.Size = nil
	}
	return c
}

// within goes through an expression for which names more are given.
func (r *reckoner) within(more names, e *api.Expr) costs {
	count := len(r.names)
	r.names = append(r.names, more...)
	c := r.expr(e)
	r.names = r.names[:count]
	return c
}

// tell puts what hangs on an expression's kind.
func (r *reckoner) tell(c *costs, e *api.Expr) {
	switch e.Kind {
	case api.ExBytes:
		c.of.Kind = api.TyBytes
		c.makes(2 + (len(e.Bytes)+7)/8)
	case api.ExVar:
		n := r.names.find(e.Name)
		c.of, c.Size = n.of, n.size
	case api.ExCon:
		data, _, _ := ty.Con(r.types, e.Name)
		c.of = api.Type{Kind: api.TyData, Name: r.types[data].Name}
		c.makesOf(r.row(c, e.Kids))
	case api.ExTuple:
		kids := r.row(c, e.Kids)
		c.of = api.Type{Kind: api.TyTuple, Parts: each(kids, typeOf)}
		c.makesOf(kids)
	case api.ExCall:
		r.call(c, e)
	case api.ExLet:
		r.let(c, e)
	case api.ExIf:
		c.adds(r.expr(&e.Kids[0]).Bound, 0)
		c.is(r.expr(&e.Kids[1]).or(r.expr(&e.Kids[2])), 0)
	case api.ExMatch:
		r.match(c, e)
	case api.ExOp:
		r.row(c, e.Kids)
		r.operator(c, e.Num)
	case api.ExFor:
		r.loop(c, e)
	}
}

func typeOf(c costs) api.Type { return c.of }

func sizeOf(c costs) api.Poly { return c.Size }

// row goes through Kids, each at one slot more.
func (r *reckoner) row(c *costs, kids []api.Expr) []costs {
	var l []costs
	for at := range kids {
		kid := r.expr(&kids[at])
		c.adds(kid.Bound, at)
		l = append(l, kid)
	}
	return l
}

// call is of a function ahead, or of the one in whose Body it stands: what that costs is not known yet.
func (r *reckoner) call(c *costs, e *api.Expr) {
	sizes := each(r.row(c, e.Kids), sizeOf)
	f := r.funs[e.Name]
	if e.Name == r.self {
		r.calls = append(r.calls, sizes)
		c.of, c.Size = f.Result, unknown(api.VarSelf)
		return
	}
	c.is(costs{put(f.Bound, sizes), f.Result}, 2*len(e.Kids))
}

func (r *reckoner) let(c *costs, e *api.Expr) {
	first := r.expr(&e.Kids[0])
	c.adds(first.Bound, 0)
	c.is(r.within(names{{e.Name, first.of, first.Size}}, &e.Kids[1]), 1)
}

func (r *reckoner) match(c *costs, e *api.Expr) {
	kid := r.expr(&e.Kids[0])
	c.adds(kid.Bound, 0)
	var way costs
	for at := range e.Arms {
		arm := &e.Arms[at]
		way = way.or(r.within(r.given(nil, &arm.Pat, kid.of, kid.Size), &arm.Body))
	}
	c.is(way, patsOf(e)+1)
}

func (r *reckoner) operator(c *costs, op int64) {
	switch op {
	case api.OpLt, api.OpLe, api.OpEq:
		c.of = api.Type{Kind: api.TyData, Name: "bool"}
	case api.OpCat, api.OpCut:
		c.of.Kind = api.TyBytes
		c.makes(api.MaxObj)
	}
}

// loop has an unknown for what its name has, which is put to be the most that that comes to.
func (r *reckoner) loop(c *costs, e *api.Expr) {
	first := r.expr(&e.Kids[0])
	c.adds(first.Bound, 0)
	if r.loops == api.MaxLoops {
		panic(api.ErrBig)
	}
	x, often := api.VarLoop+r.loops, number(int(e.Num))
	r.loops++
	then := r.within(names{{e.Name, first.of, unknown(x)}}, &e.Kids[1])
	r.loops--
	most, grows := once(then.Size, x)
	if grows {
		most = plus(first.Size, times(often, most))
	} else {
		most = greater(first.Size, most)
	}
	then.Size = nil
	then.Steps = plus(then.Steps, number(6))
	all := put(then.Bound, only(x, most))
	all.Words, all.Steps = times(often, all.Words), times(often, all.Steps)
	all.Size = most
	c.is(costs{all, first.of}, 2)
}
