package show_test

import "handloom/api"

// sower gives numbers that look like chance, the same ones each time.
type sower uint64

func (s *sower) below(n int) int {
	x := uint64(*s)
	x ^= x << 13
	x ^= x >> 7
	x ^= x << 17
	*s = sower(x)
	return int(x>>11) % n
}

func pick[T any](s *sower, l ...T) T { return l[s.below(len(l))] }

func some[T any](count int, make func() T) []T {
	var l []T
	for range count {
		l = append(l, make())
	}
	return l
}

func (s *sower) place() api.Pos { return api.Pos{Line: 1 + s.below(9), Col: 1 + s.below(9)} }

// aName may be that of a variable, a parameter, a handler: names of operators and types among them.
func (s *sower) aName() string {
	return pick(s, "x", "y", "é", "xs", "a_1", "list", "len", "cut", "int", "bytes", "typ", "ends")
}

func (s *sower) dataName() string { return pick(s, "list", "t", "é_9", "at", "len", "bool", "ints") }

func (s *sower) funName() string { return pick(s, "f", "g", "é_9", "length", "cats", "main") }

func (s *sower) great() string { return pick(s, "Nil", "Cons", "A", "Bé_2", "True") }

func (s *sower) number() int64 { return pick(s, 0, 1, -1, 7, -300, most, -most, 1<<40) }

// aType is fit, and at most so deep.
func (s *sower) aType(depth int) api.Type {
	switch kind := s.below(5); {
	case kind == 0:
		return bytesType()
	case kind == 1:
		return data(s.dataName())
	case kind < 4 && depth > 1:
		return tupleType(some(2+s.below(5), func() api.Type { return s.aType(depth - 1) })...)
	}
	return api.Type{}
}

// aPat is fit, and at most so deep.
func (s *sower) aPat(depth int) api.Pat {
	p := api.Pat{At: s.place(), Kind: s.below(5)}
	kids := func(count int) []api.Pat { return some(count, func() api.Pat { return s.aPat(depth - 1) }) }
	if depth == 1 && p.Kind > api.PtInt {
		p.Kind = api.PtVar
	}
	switch p.Kind {
	case api.PtVar:
		p.Name = s.aName()
	case api.PtInt:
		p.Num = s.number()
	case api.PtCon:
		p.Name, p.Kids = s.great(), kids(s.below(4))
	case api.PtTuple:
		p.Kids = kids(2 + s.below(3))
	}
	return p
}

// anExpr is fit, and at most so deep.
func (s *sower) anExpr(depth int) api.Expr {
	e := api.Expr{At: s.place(), Kind: s.below(11)}
	kids := func(count int) []api.Expr { return some(count, func() api.Expr { return s.anExpr(depth - 1) }) }
	if depth == 1 && e.Kind > api.ExVar {
		e.Kind = s.below(3)
	}
	switch e.Kind {
	case api.ExInt:
		e.Num = s.number()
	case api.ExBytes:
		e.Bytes = append(e.Bytes, "a\n\xff\x00\"\\d é\t"[:s.below(12)]...)
	case api.ExVar:
		e.Name = pick(s, "state", s.aName())
	case api.ExCon:
		e.Name, e.Kids = s.great(), kids(s.below(4))
	case api.ExTuple:
		e.Kids = kids(2 + s.below(3))
	case api.ExCall:
		e.Name, e.Kids = s.funName(), kids(1+s.below(3))
	case api.ExLet:
		e.Name, e.Kids = s.aName(), kids(2)
	case api.ExIf:
		e.Kids = kids(3)
	case api.ExMatch:
		arm := func() api.Arm { return api.Arm{Pat: s.aPat(min(depth-1, 3)), Body: s.anExpr(depth - 1)} }
		e.Kids, e.Arms = kids(1), some(1+s.below(3), arm)
	case api.ExOp:
		// signs more often: with them it matters where parentheses stand
		e.Num = int64(pick(s, s.below(api.OpLen), s.below(api.OpLen), s.below(api.NumOps)))
		e.Kids = kids([]int{2, 2, 2, 2, 2, 2, 2, 2, 1, 2, 2, 3}[e.Num])
	case api.ExFor:
		e.Num, e.Name, e.Kids = int64(pick(s, 0, 1000, s.below(1001))), s.aName(), kids(2)
	}
	return e
}

// signed is an expression of operators with signs, and of what wants parentheses within them.
func (s *sower) signed(depth int) api.Expr {
	kid := func() api.Expr { return s.signed(depth - 1) }
	switch {
	case depth == 1 || s.below(5) == 0:
		return pick(s, variable(pick(s, "a", "b", "c")), num(-1))
	case s.below(8) == 0:
		return pick(s, let("x", kid(), kid()), cond(kid(), kid(), kid()), match(kid(), arm(anyPat(), kid())), loop(1, "x", kid(), kid()))
	}
	return op(int64(s.below(api.OpLen)), kid(), kid())
}

func (s *sower) param() api.Param { return api.Param{Name: s.aName(), Type: s.aType(3)} }

func (s *sower) data() api.Data {
	con := func() api.Con {
		return api.Con{Name: s.great(), Fields: some(s.below(7), func() api.Type { return s.aType(3) })}
	}
	return api.Data{At: s.place(), Name: s.dataName(), Cons: some(1+s.below(4), con)}
}

func (s *sower) fun(depth int) api.Fun {
	return api.Fun{At: s.place(), Name: s.funName(), Params: some(1+s.below(6), s.param), Result: s.aType(3), Body: s.anExpr(depth)}
}

func (s *sower) hand(depth int) api.Hand {
	return api.Hand{At: s.place(), Name: s.aName(), Param: s.param(), Cap: pick(s, 0, 64, s.below(65)), Body: s.anExpr(depth)}
}

// aProg is fit, its expressions at most so deep.
func (s *sower) aProg(depth int) api.Prog {
	return api.Prog{
		Datas: some(s.below(4), s.data), Funs: some(s.below(4), func() api.Fun { return s.fun(depth) }),
		Queue: pick(s, 1, 32, 1+s.below(32)), Timers: pick(s, 0, 0, 32, s.below(33)),
		State: s.aType(3), Cap: pick(s, 0, 256, s.below(257)), Init: s.anExpr(depth),
		Hands: some(s.below(4), func() api.Hand { return s.hand(depth) }),
	}
}
