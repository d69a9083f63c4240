package parse_test

import "handloom/api"

const most = int64(1<<62 - 1)

// sower gives numbers that look like chance, the same ones each time.
type sower uint64

func (s *sower) below(n int) int {
	x := uint64(*s)
	x ^= x << 13
	x ^= x >> 7
	x ^= x << 17
	*s = sower(x)
	return int(x>>11) % n
}

func pick[T any](s *sower, l ...T) T { return l[s.below(len(l))] }

func some[T any](count int, make func() T) []T {
	var l []T
	for range count {
		l = append(l, make())
	}
	return l
}

// aName may be that of a variable, a parameter, a handler: names of operators and types among them.
func (s *sower) aName() string {
	return pick(s, "x", "y", "é", "xs", "a_1", "list", "len", "cut", "int", "bytes", "typ", "ends")
}

func (s *sower) dataName() string { return pick(s, "list", "t", "é_9", "at", "len", "bool", "ints") }

func (s *sower) funName() string { return pick(s, "f", "g", "é_9", "length", "cats", "main") }

func (s *sower) great() string { return pick(s, "Nil", "Cons", "A", "Bé_2", "True") }

func (s *sower) number() int64 { return pick(s, 0, 1, -1, 7, -300, most, -most, 1<<40) }

// aType is fit, and at most so deep.
func (s *sower) aType(depth int) api.Type {
	switch kind := s.below(5); {
	case kind == 0:
		return api.Type{Kind: api.TyBytes}
	case kind == 1:
		return api.Type{Kind: api.TyData, Name: s.dataName()}
	case kind < 4 && depth > 1:
		return api.Type{Kind: api.TyTuple, Parts: some(2+s.below(5), func() api.Type { return s.aType(depth - 1) })}
	}
	return api.Type{Kind: api.TyInt}
}

// aPat is fit, and at most so deep.
func (s *sower) aPat(depth int) api.Pat {
	p := api.Pat{Kind: s.below(5)}
	kids := func(count int) []api.Pat { return some(count, func() api.Pat { return s.aPat(depth - 1) }) }
	if depth == 1 && p.Kind > api.PtInt {
		p.Kind = api.PtVar
	}
	switch p.Kind {
	case api.PtVar:
		p.Name = s.aName()
	case api.PtInt:
		p.Num = s.number()
	case api.PtCon:
		p.Name, p.Kids = s.great(), kids(s.below(4))
	case api.PtTuple:
		p.Kids = kids(2 + s.below(3))
	}
	return p
}

// anExpr is fit, and at most so deep.
func (s *sower) anExpr(depth int) api.Expr {
	e := api.Expr{Kind: s.below(11)}
	kids := func(count int) []api.Expr { return some(count, func() api.Expr { return s.anExpr(depth - 1) }) }
	if depth == 1 && e.Kind > api.ExVar {
		e.Kind = s.below(3)
	}
	switch e.Kind {
	case api.ExInt:
		e.Num = s.number()
	case api.ExBytes:
		e.Bytes = append(e.Bytes, "a\n\xff\x00\"\\def"[:s.below(9)]...)
	case api.ExVar:
		e.Name = pick(s, "state", s.aName())
	case api.ExCon:
		e.Name, e.Kids = s.great(), kids(s.below(4))
	case api.ExTuple:
		e.Kids = kids(2 + s.below(3))
	case api.ExCall:
		e.Name, e.Kids = s.funName(), kids(1+s.below(3))
	case api.ExLet:
		e.Name, e.Kids = s.aName(), kids(2)
	case api.ExIf:
		e.Kids = kids(3)
	case api.ExMatch:
		arm := func() api.Arm { return api.Arm{Pat: s.aPat(min(depth-1, 3)), Body: s.anExpr(depth - 1)} }
		e.Kids, e.Arms = kids(1), some(1+s.below(3), arm)
	case api.ExOp:
		// signs more often: with them it matters where parentheses stand
		e.Num = int64(pick(s, s.below(api.OpLen), s.below(api.OpLen), s.below(api.NumOps)))
		e.Kids = kids(wantOperands(e.Num))
	case api.ExFor:
		e.Num, e.Name, e.Kids = int64(pick(s, 0, 1000, s.below(1001))), s.aName(), kids(2)
	}
	return e
}

// signed is an expression of operators with signs alone.
func (s *sower) signed(depth int) api.Expr {
	if depth == 1 || s.below(5) == 0 {
		return api.Expr{Kind: api.ExVar, Name: pick(s, "a", "b", "c")}
	}
	kid := func() api.Expr { return s.signed(depth - 1) }
	return api.Expr{Kind: api.ExOp, Num: int64(s.below(api.OpLen)), Kids: some(2, kid)}
}

func (s *sower) param() api.Param { return api.Param{Name: s.aName(), Type: s.aType(3)} }

func (s *sower) data() api.Data {
	con := func() api.Con {
		return api.Con{Name: s.great(), Fields: some(s.below(7), func() api.Type { return s.aType(3) })}
	}
	return api.Data{Name: s.dataName(), Cons: some(1+s.below(4), con)}
}

func (s *sower) fun(depth int) api.Fun {
	return api.Fun{Name: s.funName(), Params: some(1+s.below(6), s.param), Result: s.aType(3), Body: s.anExpr(depth)}
}

func (s *sower) hand(depth int) api.Hand {
	return api.Hand{Name: s.aName(), Param: s.param(), Cap: pick(s, 0, 64, s.below(65)), Body: s.anExpr(depth)}
}

// aProg is fit, its expressions at most so deep.
func (s *sower) aProg(depth int) api.Prog {
	return api.Prog{
		Datas: some(s.below(4), s.data), Funs: some(s.below(4), func() api.Fun { return s.fun(depth) }),
		Queue: pick(s, 1, 32, 1+s.below(32)), Timers: pick(s, 0, 0, 32, s.below(33)),
		State: s.aType(3), Cap: pick(s, 0, 256, s.below(257)), Init: s.anExpr(depth),
		Hands: some(s.below(4), func() api.Hand { return s.hand(depth) }),
	}
}

func wantOperands(op int64) int { return []int{2, 2, 2, 2, 2, 2, 2, 2, 1, 2, 2, 3}[op] }

// steepType is fit but for its depth, which is just that much.
func (s *sower) steepType(depth int) api.Type {
	if depth == 1 {
		return s.aType(1)
	}
	parts := some(2+s.below(2), func() api.Type { return s.aType(1) })
	parts[s.below(len(parts))] = s.steepType(depth - 1)
	return api.Type{Kind: api.TyTuple, Parts: parts}
}

// steepPat is fit but for its depth, which is just that much.
func (s *sower) steepPat(depth int) api.Pat {
	if depth == 1 {
		return s.aPat(1)
	}
	p := s.aPat(2)
	for len(p.Kids) == 0 {
		p = s.aPat(2)
	}
	p.Kids[s.below(len(p.Kids))] = s.steepPat(depth - 1)
	return p
}

// steepExpr is fit but for its depth, which is just that much, or more; of so many calls of an operator about one has another number of parts.
func (s *sower) steepExpr(depth, right int) api.Expr {
	if depth == 1 {
		return s.anExpr(1)
	}
	e := s.anExpr(2)
	for len(e.Kids) == 0 {
		e = s.anExpr(2)
	}
	if e.Kind == api.ExOp && e.Num >= api.OpLen && s.below(right) == 0 {
		e.Kids = some(1+s.below(6), func() api.Expr { return s.anExpr(1) })
	}
	switch {
	case e.Kind == api.ExMatch && s.below(12) == 0:
		e.Arms[s.below(len(e.Arms))].Pat = s.steepPat(depth - 1)
	case e.Kind == api.ExMatch && s.below(2) == 0:
		e.Arms[s.below(len(e.Arms))].Body = s.steepExpr(depth-1, right)
	default:
		e.Kids[s.below(len(e.Kids))] = s.steepExpr(depth-1, right)
	}
	return e
}

// steepProg has up to three parts that are about so deep.
func (s *sower) steepProg(depth, right int) api.Prog {
	p := s.aProg(2)
	for range 1 + s.below(3) {
		deep := depth - s.below(10)
		switch {
		case len(p.Datas) > 0 && s.below(2) == 0:
			con := &p.Datas[s.below(len(p.Datas))].Cons[0]
			con.Fields = append(some(s.below(3), func() api.Type { return s.aType(2) }), s.steepType(deep))
		case len(p.Funs) > 0 && s.below(2) == 0:
			f := &p.Funs[s.below(len(p.Funs))]
			f.Params[s.below(len(f.Params))].Type, f.Body = s.steepType(deep), s.steepExpr(deep, right)
		case len(p.Hands) > 0 && s.below(2) == 0:
			h := &p.Hands[s.below(len(p.Hands))]
			h.Param.Type, h.Body = s.steepType(deep), s.steepExpr(deep, right)
		case s.below(3) == 0:
			p.State = s.steepType(deep)
		default:
			p.Init = s.steepExpr(deep, right)
		}
	}
	return p
}

func exprDepth(e api.Expr) int {
	depth := 0
	for _, kid := range e.Kids {
		depth = max(depth, exprDepth(kid))
	}
	for _, arm := range e.Arms {
		depth = max(depth, patDepth(arm.Pat), exprDepth(arm.Body))
	}
	return depth + 1
}

func patDepth(p api.Pat) int {
	depth := 0
	for _, kid := range p.Kids {
		depth = max(depth, patDepth(kid))
	}
	return depth + 1
}

func typeDepth(t api.Type) int {
	depth := 0
	for _, part := range t.Parts {
		depth = max(depth, typeDepth(part))
	}
	return depth + 1
}
