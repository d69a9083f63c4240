package bound_test

import (
	"maps"
	"slices"

	"handloom/api"
	"handloom/ast"
	"handloom/check"
	"handloom/halt"
	"handloom/ty"
)

// The chapter's words once more: another reading than the program's, to hold it against. Each expression is asked for its type by chapter 9, then for each of its four numbers by itself, as these are needed; nothing is thrown: all that is wrong is noted.

// node is an expression where it stands.
type node struct {
	e     api.Expr
	of    api.Type
	depth int // how many loops have it in their second Kid
	kids  []*node
	arms  []*node
	has   map[string]func() amounts // the sizes of names

	size, words, steps, peak amounts // nil: not asked yet
}

// four is a bound.
type four struct{ size, words, steps, peak amounts }

func (f four) told() api.Bound {
	return api.Bound{Size: f.size.sum(), Words: f.words.sum(), Steps: f.steps.sum(), Peak: f.peak.sum()}
}

type reading struct {
	errors
	p    api.Prog
	all  []api.Data
	self string
	funs map[string]four
}

func wantFlat(l []api.Data, t api.Type) bool {
	if t.Kind == api.TyInt {
		return true
	}
	if t.Kind != api.TyData {
		return false
	}
	for _, d := range l {
		if d.Name != t.Name {
			continue
		}
		fields := 0
		for _, c := range d.Cons {
			fields += len(c.Fields)
		}
		return fields == 0
	}
	return false
}

func fixed(m amounts) func() amounts { return func() amounts { return m } }

// with is names with their types, and one more.
func with(env []api.Param, more ...api.Param) []api.Param { return slices.Concat(env, more) }

// node is an expression, its names having types and sizes.
func (r *reading) node(e api.Expr, env []api.Param, has map[string]func() amounts, depth int) *node {
	of, f := check.TypeOf(r.p, env, e)
	if f != (api.Fault{}) {
		panic(short(e) + " has no type")
	}
	n := &node{e: e, of: of, depth: depth, has: has}
	for at, kid := range e.Kids {
		if at == 1 && (e.Kind == api.ExLet || e.Kind == api.ExFor) {
			n.kids = append(n.kids, r.second(n, env))
			continue
		}
		n.kids = append(n.kids, r.node(kid, env, has, depth))
	}
	for _, a := range e.Arms {
		params, f := check.Binds(r.all, a.Pat, n.kids[0].of)
		if f != (api.Fault{}) {
			panic(short(a.Pat) + " takes nothing")
		}
		own := maps.Clone(has)
		for _, p := range params {
			own[p.Name] = func() amounts { return r.size(n.kids[0]) }
		}
		n.arms = append(n.arms, r.node(a.Body, with(env, params...), own, depth))
	}
	return n
}

// second is the second Kid of a let or a loop.
func (r *reading) second(n *node, env []api.Param) *node {
	first, own, depth := n.kids[0], maps.Clone(n.has), n.depth
	own[n.e.Name] = func() amounts { return r.size(first) }
	if n.e.Kind == api.ExFor {
		if depth++; depth > 5 {
			r.big = true
			own[n.e.Name] = fixed(amounts{})
		} else {
			own[n.e.Name] = fixed(single(5 + depth))
		}
	}
	return r.node(n.e.Kids[1], with(env, param(n.e.Name, first.of)), own, depth)
}

func (r *reading) isSelf(n *node) bool { return n.e.Kind == api.ExCall && n.e.Name == r.self }

// called is one of the numbers of a function that is called.
func (r *reading) called(n *node, of func(f four) amounts) amounts {
	stands := map[int]amounts{}
	for at, kid := range n.kids {
		stands[at] = r.size(kid)
	}
	return r.put(of(r.funs[n.e.Name]), stands)
}

// textWords is the words of a text of so many bytes.
func textWords(n int) int {
	words := 2
	for at := 0; at < n; at += 8 {
		words++
	}
	return words
}

// own is the words of what an expression itself makes.
func own(e api.Expr) int {
	switch {
	case e.Kind == api.ExTuple, e.Kind == api.ExCon && len(e.Kids) > 0:
		return 2 + len(e.Kids)
	case e.Kind == api.ExBytes:
		return textWords(len(e.Bytes))
	case e.Kind == api.ExOp && (e.Num == api.OpCat || e.Num == api.OpCut):
		return 10
	}
	return 0
}

func (r *reading) size(n *node) amounts {
	if n.size == nil {
		n.size = amounts{}
		if !wantFlat(r.all, n.of) {
			n.size = r.sizeOf(n)
		}
	}
	return n.size
}

func (r *reading) sizeOf(n *node) amounts {
	switch n.e.Kind {
	case api.ExVar:
		return n.has[n.e.Name]()
	case api.ExCon, api.ExTuple:
		all := amount(own(n.e))
		for _, kid := range n.kids {
			all = r.plus(all, r.size(kid))
		}
		return all
	case api.ExLet:
		return r.size(n.kids[1])
	case api.ExIf:
		return r.greatest(r.size(n.kids[1]), r.size(n.kids[2]))
	case api.ExMatch:
		all := amounts{}
		for _, body := range n.arms {
			all = r.greatest(all, r.size(body))
		}
		return all
	case api.ExCall:
		if r.isSelf(n) {
			return single(api.VarSelf)
		}
		return r.called(n, func(f four) amounts { return f.size })
	case api.ExFor:
		return r.most(n)
	}
	return amount(own(n.e))
}

// most is Y of a loop.
func (r *reading) most(n *node) amounts {
	first := r.size(n.kids[0])
	rest, is := r.once(r.size(n.kids[1]), 6+min(n.depth, 4))
	if is {
		return r.plus(first, r.times(amount(int(n.e.Num)), rest))
	}
	return r.greatest(first, rest)
}

// again is a number of a loop's second Kid, X being Y.
func (r *reading) again(n *node, m amounts) amounts {
	return r.put(m, map[int]amounts{6 + min(n.depth, 4): r.most(n)})
}

// ways is the Kids that are gone through in any case, and those of which one is.
func ways(n *node) (all, one []*node) {
	switch n.e.Kind {
	case api.ExIf:
		return n.kids[:1], n.kids[1:]
	case api.ExMatch:
		return n.kids, n.arms
	}
	return n.kids, nil
}

// added is a number of an expression that is added up: its own, and its parts', to each of which something is added of a loop's second Kid.
func (r *reading) added(n *node, own, each int, of func(n *node) amounts, called func(f four) amounts) amounts {
	all, one := ways(n)
	sum := amount(own)
	for at, kid := range all {
		m := of(kid)
		if at == 1 && n.e.Kind == api.ExFor {
			m = r.times(amount(int(n.e.Num)), r.again(n, r.plus(m, amount(each))))
		}
		sum = r.plus(sum, m)
	}
	most := amounts{}
	for _, kid := range one {
		most = r.greatest(most, of(kid))
	}
	if n.e.Kind == api.ExCall && !r.isSelf(n) {
		most = r.called(n, called)
	}
	return r.plus(sum, most)
}

func (r *reading) words(n *node) amounts {
	if n.words == nil {
		n.words = r.added(n, own(n.e), 0, r.words, func(f four) amounts { return f.words })
	}
	return n.words
}

// ownPats is how many patterns stand in the arms of an expression itself.
func ownPats(e api.Expr) int {
	bare := match(num(0))
	for _, a := range e.Arms {
		bare.Arms = append(bare.Arms, arm(a.Pat, num(0)))
	}
	_, pats := ast.Nodes(bare)
	return pats
}

func (r *reading) steps(n *node) amounts {
	if n.steps == nil {
		own := 4 + 2*len(n.kids) + 8*len(n.arms) + 8*ownPats(n.e)
		n.steps = r.added(n, own, 6, r.steps, func(f four) amounts { return f.steps })
	}
	return n.steps
}

// further is how many slots behind an expression's its Kid stands.
func further(n *node, at int) int {
	switch n.e.Kind {
	case api.ExCon, api.ExTuple, api.ExCall, api.ExOp:
		return at
	case api.ExLet:
		return []int{0, 1}[at]
	case api.ExFor:
		return []int{0, 2}[at]
	}
	return 0
}

func (r *reading) peak(n *node) amounts {
	if n.peak != nil {
		return n.peak
	}
	all := amount(2*len(n.kids) + 1)
	if n.e.Kind == api.ExMatch {
		all = r.greatest(all, amount(2*ownPats(n.e)+3))
	}
	for at, kid := range n.kids {
		m := r.plus(r.peak(kid), amount(further(n, at)))
		if at == 1 && n.e.Kind == api.ExFor {
			m = r.again(n, m)
		}
		all = r.greatest(all, m)
	}
	for _, body := range n.arms {
		all = r.greatest(all, r.plus(r.peak(body), amount(ownPats(n.e)+1)))
	}
	if n.e.Kind == api.ExCall && !r.isSelf(n) {
		body := r.called(n, func(f four) amounts { return f.peak })
		all = r.greatest(all, r.plus(body, amount(2*len(n.kids))))
	}
	n.peak = all
	return all
}

// four asks each expression for each of its numbers.
func (r *reading) four(n *node) four {
	for _, part := range slices.Concat(n.kids, n.arms) {
		r.four(part)
	}
	return four{r.size(n), r.words(n), r.steps(n), r.peak(n)}
}

// body is an expression whose names have unknowns for sizes.
func (r *reading) body(e api.Expr, params ...api.Param) *node {
	has := map[string]func() amounts{}
	for k, p := range params {
		has[p.Name] = fixed(single(k))
	}
	return r.node(e, params, has, 0)
}

// selves is the calls of itself in a function's Body.
func (r *reading) selves(n *node) []*node {
	var l []*node
	if r.isSelf(n) {
		l = append(l, n)
	}
	for _, part := range slices.Concat(n.kids, n.arms) {
		l = append(l, r.selves(part)...)
	}
	return l
}

func (r *reading) fun(f api.Fun) four {
	r.self = f.Name
	body := r.body(f.Body, f.Params...)
	b := r.four(body)
	k, _ := halt.Down(f)
	if k < 0 {
		return b
	}
	long := r.plus(single(k), amount(1))
	by := map[int]amounts{}
	for j, p := range f.Params {
		if j == k || wantFlat(r.all, p.Type) {
			continue
		}
		by[j] = amounts{}
		for _, c := range r.selves(body) {
			r.grow = r.grow || r.size(c.kids[j]).has(api.VarSelf)
			rest, _ := r.once(r.size(c.kids[j]), j)
			by[j] = r.greatest(by[j], rest)
		}
	}
	return r.down(b, long, by)
}

// down is a function's bound, of its Body's: G by parameters.
func (r *reading) down(b four, long amounts, by map[int]amounts) four {
	stands := map[int]amounts{}
	for j, m := range by {
		for i, other := range by {
			r.grow = r.grow || m.has(i) && len(other) > 0
		}
		stands[j] = r.plus(single(j), r.times(long, m))
	}
	rest, is := r.once(b.size, api.VarSelf)
	for _, m := range []amounts{b.words, b.steps, b.peak} {
		r.grow = r.grow || m.has(api.VarSelf)
	}
	told := four{r.put(rest, stands), r.put(b.words, stands), r.put(b.steps, stands), r.put(b.peak, stands)}
	if is {
		told.size = r.times(long, told.size)
	}
	told.words, told.steps, told.peak = r.times(long, told.words), r.times(long, told.steps), r.times(long, told.peak)
	return told
}

// answer is what Of tells, by the second reading: bounds; the fault of chapter 11; or what may be told, one of its errors, at a place.
type answer struct {
	bounds api.Bounds
	fault  api.Fault
	errors
}

// typesOf is a program without what has no part in its expressions' types: so these are soon told.
func typesOf(p api.Prog) api.Prog {
	bare := api.Prog{Datas: p.Datas, Queue: 1}
	for _, f := range p.Funs {
		f.Body = num(0)
		bare.Funs = append(bare.Funs, f)
	}
	return bare
}

func wantOf(p api.Prog) answer {
	if f := halt.Check(p); f != (api.Fault{}) {
		return answer{fault: f}
	}
	r := &reading{p: typesOf(p), all: ty.Datas(p), funs: map[string]four{}}
	var told api.Bounds
	failed := func(at api.Pos) (answer, bool) {
		return answer{fault: api.Fault{At: at}, errors: r.errors}, r.grow || r.big
	}
	for _, f := range p.Funs {
		b := r.fun(f)
		if a, is := failed(f.At); is {
			return a
		}
		r.funs[f.Name] = b
		told.Funs = append(told.Funs, b.told())
	}
	r.self = ""
	told.Init = r.four(r.body(p.Init)).told()
	if a, is := failed(p.Init.At); is {
		return a
	}
	for _, h := range p.Hands {
		told.Hands = append(told.Hands, r.four(r.body(h.Body, param("state", p.State), h.Param)).told())
		if a, is := failed(h.At); is {
			return a
		}
	}
	return answer{bounds: told}
}
