package ast_test

import (
	"math"
	"slices"
	"strings"
	"testing"

	"handloom/api"
	"handloom/ast"
)

func fitsType(t *testing.T, want bool, l ...api.Type) {
	t.Helper()
	for _, x := range l {
		if got := ast.FitType(x); got != want || wantType(x, 1) != want {
			t.Errorf("FitType(%s) = %v, want %v", short(x), got, want)
		}
	}
}

func fitsPat(t *testing.T, want bool, l ...api.Pat) {
	t.Helper()
	for _, x := range l {
		if got := ast.FitPat(x); got != want || wantPat(x, 1) != want {
			t.Errorf("FitPat(%s) = %v, want %v", short(x), got, want)
		}
		fitsExpr(t, want, match(num(1), arm(anyPat(), num(1)), arm(x, num(1))))
	}
}

func fitsExpr(t *testing.T, want bool, l ...api.Expr) {
	t.Helper()
	for _, x := range l {
		if got := ast.FitExpr(x); got != want || wantExpr(x, 1) != want {
			t.Errorf("FitExpr(%s) = %v, want %v", short(x), got, want)
		}
	}
}

func fitsProg(t *testing.T, want bool, l ...api.Prog) {
	t.Helper()
	for _, x := range l {
		if got := ast.Fit(x); got != want || wantProg(x) != want {
			t.Errorf("Fit(%s) = %v, want %v", short(x), got, want)
		}
	}
}

// times is a list of parts that are alike.
func times[T any](count int, one T) []T { return slices.Repeat([]T{one}, count) }

// P4.1
func TestTypesByHand(t *testing.T) {
	number, list := api.Type{}, data("list")
	fitsType(t, true, number, api.Type{Kind: api.TyBytes}, list, data("é"), data("bool"), data("len"), tupleType(number, list),
		tupleType(times(6, number)...), tupleType(tupleType(list, list), number), api.Type{Parts: []api.Type{}})
	fitsType(t, false,
		api.Type{Kind: 4}, api.Type{Kind: -1}, api.Type{Kind: math.MaxInt}, api.Type{Kind: math.MinInt, Name: "list"},
		api.Type{Name: "int"}, api.Type{Kind: api.TyBytes, Name: "bytes"}, api.Type{Parts: []api.Type{number, number}},
		api.Type{Kind: api.TyBytes, Parts: []api.Type{number}}, api.Type{Kind: api.TyData, Name: "list", Parts: []api.Type{number}},
		data(""), data("int"), data("bytes"), data("List"), data("state"), data("type"), data("a b"),
		tupleType(), tupleType(number), tupleType(times(7, number)...), api.Type{Kind: api.TyTuple, Name: "t", Parts: []api.Type{number, number}},
		tupleType(number, data("int")), tupleType(tupleType(number, tupleType(number)), number), tupleType(number, number, api.Type{Kind: 9}))
}

// P4.1
func TestPatsByHand(t *testing.T) {
	x := varPat("x")
	fitsPat(t, true, anyPat(), x, varPat("int"), varPat("len"), varPat("é"), numPat(0), numPat(most), numPat(-most), conPat("Nil"), conPat("Cons", x, anyPat()),
		conPat("A", times(6, x)...), tuplePat(x, x), tuplePat(times(6, anyPat())...), tuplePat(conPat("A", tuplePat(x, numPat(1))), x),
		api.Pat{At: api.Pos{Line: -1, Col: 9}, Kids: []api.Pat{}})
	fitsPat(t, false,
		api.Pat{Kind: 5}, api.Pat{Kind: -1}, api.Pat{Kind: math.MaxInt}, api.Pat{Kind: 5, Name: "x"},
		api.Pat{Name: "x"}, api.Pat{Num: 1}, api.Pat{Kids: []api.Pat{x}},
		varPat(""), varPat("X"), varPat("state"), varPat("_"), varPat("x "), api.Pat{Kind: api.PtVar, Name: "x", Num: 1}, api.Pat{Kind: api.PtVar, Name: "x", Kids: []api.Pat{x}},
		numPat(most+1), numPat(-most-1), numPat(math.MaxInt64), numPat(math.MinInt64), api.Pat{Kind: api.PtInt, Name: "x"}, api.Pat{Kind: api.PtInt, Kids: []api.Pat{x}},
		conPat(""), conPat("nil"), conPat("A B"), conPat("A", times(7, x)...), api.Pat{Kind: api.PtCon, Name: "A", Num: -1},
		tuplePat(), tuplePat(x), tuplePat(times(7, x)...), api.Pat{Kind: api.PtTuple, Name: "A", Kids: []api.Pat{x, x}}, api.Pat{Kind: api.PtTuple, Num: 2, Kids: []api.Pat{x, x}},
		conPat("A", x, varPat("X")), tuplePat(conPat("A", tuplePat(x, numPat(most+1))), x))
}

// P4.1
func TestExprsByHand(t *testing.T) {
	x, a := variable("x"), arm(anyPat(), variable("y"))
	fitsExpr(t, true, num(0), num(most), num(-most), text(""), text(strings.Repeat("\xff", 64)), x, variable("state"), variable("int"), variable("len"),
		con("Nil"), con("A", times(6, x)...), tuple(x, x), tuple(times(6, x)...), call("f", x), call("f", times(6, x)...), call("bool", x),
		let("x", x, x), let("len", x, x), cond(x, x, x), match(x, a), match(x, times(32, a)...),
		loop(0, "x", x, x), loop(1000, "int", x, x), op(api.OpLen, x), op(api.OpCut, x, x, x), op(api.OpAt, x, x), op(api.OpCat, x, x),
		api.Expr{At: api.Pos{Line: math.MinInt, Col: 5}, Kids: []api.Expr{}, Arms: []api.Arm{}, Bytes: []byte{}})
	for n := range int64(8) {
		fitsExpr(t, true, op(n, x, x))
		fitsExpr(t, false, op(n), op(n, x), op(n, x, x, x))
	}
	fitsExpr(t, false,
		num(most+1), num(-most-1), num(math.MaxInt64), num(math.MinInt64), text(strings.Repeat("a", 65)), text(strings.Repeat("a", 1<<16)),
		variable(""), variable("State"), variable("X"), variable("let"), variable("x#"), con(""), con("nil"), con("A", times(7, x)...),
		tuple(), tuple(x), tuple(times(7, x)...), call("f"), call("f", times(7, x)...), call("", x), call("F", x), call("state", x),
		call("int", x), call("bytes", x), call("len", x), call("at", x, x), call("cat", x, x), call("cut", x, x, x),
		let("", x, x), let("X", x, x), let("state", x, x), api.Expr{Kind: api.ExLet, Name: "x", Kids: []api.Expr{x}},
		api.Expr{Kind: api.ExLet, Name: "x", Kids: []api.Expr{x, x, x}}, cond(), cond(x, x), cond(x, x, x, x),
		match(x), match(x, times(33, a)...), api.Expr{Kind: api.ExMatch, Arms: []api.Arm{a}}, api.Expr{Kind: api.ExMatch, Kids: []api.Expr{x, x}, Arms: []api.Arm{a}},
		op(-1, x, x), op(12, x, x), op(math.MaxInt64, x, x), op(math.MinInt64, x, x), op(api.OpLen), op(api.OpLen, x, x), op(api.OpCut, x, x), op(api.OpCut, x, x, x, x),
		op(api.OpAt, x), op(api.OpAt, x, x, x), op(api.OpCat, x), op(api.OpCat, x, x, x), op(1<<32, x, x), op(1<<32+8, x),
		loop(-1, "x", x, x), loop(1001, "x", x, x), loop(1<<32, "x", x, x), loop(1, "X", x, x), loop(1, "", x, x), loop(1, "state", x, x),
		api.Expr{Kind: api.ExFor, Name: "x", Kids: []api.Expr{x}}, api.Expr{Kind: api.ExFor, Name: "x", Kids: []api.Expr{x, x, x}},
		api.Expr{Kind: 11}, api.Expr{Kind: -1}, api.Expr{Kind: math.MaxInt}, api.Expr{Kind: math.MinInt}, api.Expr{Kind: 11, Name: "x", Kids: []api.Expr{x, x}})
}

// kinds is one fit expression of each kind, and of each operator.
func kinds() []api.Expr {
	x := variable("x")
	l := []api.Expr{num(5), text("a"), x, con("A", x), tuple(x, x), call("f", x), let("y", x, x), cond(x, x, x), match(x, arm(conPat("A"), x)), loop(2, "y", x, x)}
	for n := range int64(api.NumOps) {
		kids := map[int64]int{api.OpLen: 1, api.OpCut: 3}[n]
		if kids == 0 {
			kids = 2
		}
		l = append(l, op(n, times(kids, x)...))
	}
	return l
}

// P4.1: of no kind more than it has
func TestFieldsThatAKindDoesNotHave(t *testing.T) {
	x := variable("x")
	for _, e := range kinds() {
		fitsExpr(t, true, e)
		hasName := slices.Contains([]int{api.ExVar, api.ExCon, api.ExCall, api.ExLet, api.ExFor}, e.Kind)
		hasNum := slices.Contains([]int{api.ExInt, api.ExOp, api.ExFor}, e.Kind)
		more := func(change func(e *api.Expr)) api.Expr {
			c := twin(e)
			change(&c)
			return c
		}
		if !hasName {
			fitsExpr(t, false, more(func(e *api.Expr) { e.Name = "x" }), more(func(e *api.Expr) { e.Name = "X" }))
		}
		if !hasNum {
			fitsExpr(t, false, more(func(e *api.Expr) { e.Num = 1 }), more(func(e *api.Expr) { e.Num = -1 }))
		}
		if e.Kind != api.ExBytes {
			fitsExpr(t, false, more(func(e *api.Expr) { e.Bytes = []byte{0} }))
		}
		if e.Kind != api.ExMatch {
			fitsExpr(t, false, more(func(e *api.Expr) { e.Arms = []api.Arm{arm(anyPat(), x)} }))
		}
		if e.Kids == nil {
			fitsExpr(t, false, more(func(e *api.Expr) { e.Kids = []api.Expr{x} }))
		}
		fitsExpr(t, true, more(func(e *api.Expr) { e.At = api.Pos{Line: -5, Col: math.MaxInt} }))
	}
}

// wraps is each way in which an expression can stand within another one.
func wraps() []func(e api.Expr) api.Expr {
	x := variable("x")
	return []func(e api.Expr) api.Expr{
		func(e api.Expr) api.Expr { return con("A", e) },
		func(e api.Expr) api.Expr { return con("A", x, x, x, x, x, e) },
		func(e api.Expr) api.Expr { return tuple(e, x) },
		func(e api.Expr) api.Expr { return tuple(x, e) },
		func(e api.Expr) api.Expr { return call("f", e) },
		func(e api.Expr) api.Expr { return call("f", x, e) },
		func(e api.Expr) api.Expr { return let("x", e, x) },
		func(e api.Expr) api.Expr { return let("x", x, e) },
		func(e api.Expr) api.Expr { return cond(e, x, x) },
		func(e api.Expr) api.Expr { return cond(x, e, x) },
		func(e api.Expr) api.Expr { return cond(x, x, e) },
		func(e api.Expr) api.Expr { return match(e, arm(anyPat(), x)) },
		func(e api.Expr) api.Expr { return match(x, arm(anyPat(), e)) },
		func(e api.Expr) api.Expr { return match(x, arm(anyPat(), x), arm(varPat("y"), e)) },
		func(e api.Expr) api.Expr { return op(api.OpLen, e) },
		func(e api.Expr) api.Expr { return op(api.OpAdd, e, x) },
		func(e api.Expr) api.Expr { return op(api.OpEq, x, e) },
		func(e api.Expr) api.Expr { return op(api.OpCut, x, x, e) },
		func(e api.Expr) api.Expr { return loop(3, "x", e, x) },
		func(e api.Expr) api.Expr { return loop(3, "x", x, e) },
	}
}

func patWraps() []func(p api.Pat) api.Pat {
	return []func(p api.Pat) api.Pat{
		func(p api.Pat) api.Pat { return conPat("A", p) },
		func(p api.Pat) api.Pat { return conPat("A", varPat("x"), p) },
		func(p api.Pat) api.Pat { return tuplePat(p, anyPat()) },
		func(p api.Pat) api.Pat { return tuplePat(anyPat(), numPat(1), p) },
	}
}

// nested lays a part within others, so many times.
func nested[T any](count int, part T, wrap func(T) T) T {
	for range count {
		part = wrap(part)
	}
	return part
}

// P4.1: 64 deep, itself counted, and one more
func TestDepths(t *testing.T) {
	for _, at := range []int{0, 1} {
		wrap := func(p api.Type) api.Type {
			parts := times(2, api.Type{})
			parts[at] = p
			return tupleType(parts...)
		}
		fitsType(t, true, nested(62, data("a"), wrap), nested(63, api.Type{}, wrap))
		fitsType(t, false, nested(64, api.Type{}, wrap), nested(65, data("a"), wrap), nested(1000, api.Type{}, wrap))
	}
	for _, wrap := range patWraps() {
		for _, inner := range []api.Pat{anyPat(), varPat("x"), numPat(1), conPat("A")} {
			if !ast.FitPat(nested(63, inner, wrap)) || !wantPat(nested(63, inner, wrap), 1) {
				t.Error("a pattern of just 64 is not fit")
			}
			if ast.FitPat(nested(64, inner, wrap)) || wantPat(nested(64, inner, wrap), 1) {
				t.Error("a pattern of 65 is fit")
			}
		}
	}
	for _, wrap := range wraps() {
		fitsExpr(t, true, nested(62, num(1), wrap), nested(63, variable("x"), wrap))
		fitsExpr(t, false, nested(64, num(1), wrap), nested(65, text(""), wrap), nested(1000, num(1), wrap))
	}
}

// P4.1: a pattern in an arm is one deeper than its match
func TestDepthsOfArms(t *testing.T) {
	for _, wrap := range wraps() {
		for _, patWrap := range patWraps() {
			for _, outer := range []int{0, 1, 30, 62} {
				with := func(inner int) api.Expr {
					return nested(outer, match(num(1), arm(nested(inner, varPat("z"), patWrap), num(1))), wrap)
				}
				fitsExpr(t, true, with(62-outer))
				fitsExpr(t, false, with(63-outer), with(64-outer))
			}
		}
		fitsExpr(t, false, nested(63, match(num(1), arm(anyPat(), num(1))), wrap))
	}
}

// slots is each place of a program at which a type, or an expression, stands.
func slots(p *api.Prog) (types []*api.Type, exprs []*api.Expr) {
	types = []*api.Type{
		&p.Datas[0].Cons[1].Fields[0], &p.Datas[0].Cons[1].Fields[2], &p.Funs[0].Params[0].Type, &p.Funs[0].Params[1].Type,
		&p.Funs[0].Result, &p.State, &p.Hands[0].Param.Type,
	}
	return types, []*api.Expr{&p.Funs[0].Body, &p.Init, &p.Hands[0].Body}
}

// inSlots wants a sample with such a type, or such an expression, in any one place to be fit, or not.
func inSlots(t *testing.T, want bool, ty api.Type, e api.Expr) {
	t.Helper()
	p := sample()
	types, exprs := slots(&p)
	for i, at := range types {
		old := *at
		*at = ty
		if ast.Fit(p) != want || wantProg(p) != want {
			t.Errorf("a program with the type %s in its slot %d: fit is not %v", short(ty), i, want)
		}
		*at = old
	}
	for i, at := range exprs {
		old := *at
		*at = e
		if ast.Fit(p) != want || wantProg(p) != want {
			t.Errorf("a program with the expression %s in its slot %d: fit is not %v", short(e), i, want)
		}
		*at = old
	}
}

// P4.1: a type and an expression of a program are as deep as they are by themselves, wherever they stand
func TestDepthsInPrograms(t *testing.T) {
	deepType := func(count int) api.Type {
		return nested(count, api.Type{}, func(p api.Type) api.Type { return tupleType(data("a"), p) })
	}
	deepExpr := func(count int) api.Expr {
		return nested(count, num(1), func(e api.Expr) api.Expr { return op(api.OpSub, e, num(2)) })
	}
	inSlots(t, true, deepType(63), deepExpr(63))
	inSlots(t, false, deepType(64), deepExpr(64))
}

// P4.1: a part that is not fit, deep within
func TestWrongPartsInPrograms(t *testing.T) {
	inSlots(t, true, tupleType(api.Type{}, tupleType(data("b"), data("a"))), tuple(num(1), tuple(variable("x"), con("B", num(most)))))
	inSlots(t, false, tupleType(api.Type{}, tupleType(data("b"), data("A"))), tuple(num(1), tuple(variable("x"), con("B", num(most+1)))))
	inSlots(t, false, api.Type{Kind: 4}, api.Expr{Kind: 11})
	inSlots(t, false, data("int"), match(num(1), arm(conPat("A", conPat("B", anyPat(), varPat("C"))), num(1))))
}

// with is a sample that is changed.
func with(change func(p *api.Prog)) api.Prog {
	p := sample()
	change(&p)
	return p
}

// P4.1
func TestProgsByHand(t *testing.T) {
	fitsProg(t, true, sample(), api.Prog{Queue: 1}, api.Prog{Queue: 1, Datas: []api.Data{}, Funs: []api.Fun{}, Hands: []api.Hand{}})
	fitsProg(t, false, api.Prog{}, api.Prog{Queue: 1, State: api.Type{Kind: -1}}, api.Prog{Queue: 1, Init: api.Expr{Kind: -1}})
	numbers := []struct {
		at       func(p *api.Prog) *int
		from, to int
	}{
		{func(p *api.Prog) *int { return &p.Queue }, 1, 32}, {func(p *api.Prog) *int { return &p.Timers }, 0, 32},
		{func(p *api.Prog) *int { return &p.Cap }, 0, 256}, {func(p *api.Prog) *int { return &p.Hands[0].Cap }, 0, 64},
	}
	for _, n := range numbers {
		for _, v := range []int{n.from, n.from + 1, n.to - 1, n.to, n.from - 1, n.to + 1, math.MinInt, math.MaxInt, 1<<32 + 1, -1 << 32} {
			fitsProg(t, n.from <= v && v <= n.to, with(func(p *api.Prog) { *n.at(p) = v }))
		}
	}
}

// P4.1: just as many parts of a program as may be, and one more, or one fewer
func TestCountsInPrograms(t *testing.T) {
	s := sample()
	datas := func(count int) api.Prog { return with(func(p *api.Prog) { p.Datas = times(count, s.Datas[0]) }) }
	funs := func(count int) api.Prog { return with(func(p *api.Prog) { p.Funs = times(count, s.Funs[0]) }) }
	hands := func(count int) api.Prog { return with(func(p *api.Prog) { p.Hands = times(count, s.Hands[0]) }) }
	cons := func(count int) api.Prog {
		return with(func(p *api.Prog) { p.Datas[0].Cons = times(count, s.Datas[0].Cons[1]) })
	}
	fields := func(count int) api.Prog {
		return with(func(p *api.Prog) { p.Datas[0].Cons[1].Fields = times(count, api.Type{}) })
	}
	params := func(count int) api.Prog {
		return with(func(p *api.Prog) { p.Funs[0].Params = times(count, s.Funs[0].Params[1]) })
	}
	fitsProg(t, true, datas(0), datas(32), funs(0), funs(48), hands(0), hands(16), cons(1), cons(16), fields(0), fields(6), params(1), params(6))
	fitsProg(t, false, datas(33), funs(49), hands(17), cons(0), cons(17), fields(7), params(0), params(7), datas(300), funs(300), hands(300))
}

// P4.1: a wrong part is not fit as the first, a middle, or the last one of its list
func TestWrongPartsOfLists(t *testing.T) {
	s := sample()
	for at := range 3 {
		fitsProg(t, false,
			with(func(p *api.Prog) { p.Datas = times(3, s.Datas[0]); p.Datas[at].Name = "int" }),
			with(func(p *api.Prog) { p.Funs = times(3, s.Funs[0]); p.Funs[at].Name = "cut" }),
			with(func(p *api.Prog) { p.Hands = times(3, s.Hands[0]); p.Hands[at].Cap = 65 }),
			with(func(p *api.Prog) { p.Datas[0].Cons = times(3, s.Datas[0].Cons[1]); p.Datas[0].Cons[at].Name = "a" }),
			with(func(p *api.Prog) {
				p.Datas[0].Cons[1].Fields = times(3, api.Type{})
				p.Datas[0].Cons[1].Fields[at].Kind = 2
			}),
			with(func(p *api.Prog) { p.Funs[0].Params = times(3, s.Funs[0].Params[0]); p.Funs[0].Params[at].Name = "A" }))
		types, pats, exprs, arms := times(3, api.Type{}), times(3, anyPat()), times(3, num(1)), times(3, arm(anyPat(), num(1)))
		types[at].Kind, pats[at].Kind, exprs[at].Kind, arms[at].Body.Kind = 5, 7, 12, 99
		fitsType(t, false, tupleType(types...))
		fitsPat(t, false, tuplePat(pats...), conPat("A", pats...))
		fitsExpr(t, false, tuple(exprs...), con("A", exprs...), call("f", exprs...), cond(exprs...), op(api.OpCut, exprs...), match(num(1), arms...))
	}
}

// P4.1: each place where a name stands takes those names that the chapter says, and no others
func TestNames(t *testing.T) {
	s := sample()
	for _, n := range edgeNames() {
		orState := small(n) || n == "state"
		fitsType(t, dataName(n), data(n), tupleType(api.Type{}, data(n)))
		fitsPat(t, small(n), varPat(n), conPat("A", varPat(n)))
		fitsPat(t, great(n), conPat(n), tuplePat(anyPat(), conPat(n, anyPat())))
		fitsExpr(t, orState, variable(n))
		fitsExpr(t, great(n), con(n), con(n, num(1)))
		fitsExpr(t, funName(n), call(n, num(1)), call(n, num(1), num(2), num(3)))
		fitsExpr(t, small(n), let(n, num(1), num(2)), loop(1, n, num(1), num(2)))
		fitsProg(t, dataName(n), with(func(p *api.Prog) { p.Datas[0].Name = n }))
		fitsProg(t, great(n), with(func(p *api.Prog) { p.Datas[0].Cons[0].Name = n }))
		fitsProg(t, funName(n), with(func(p *api.Prog) { p.Funs[0].Name = n }))
		fitsProg(t, small(n), with(func(p *api.Prog) { p.Funs[0].Params[1].Name = n }), with(func(p *api.Prog) { p.Hands = times(2, s.Hands[0]); p.Hands[1].Name = n }),
			with(func(p *api.Prog) { p.Hands[0].Param.Name = n }))
	}
}

// P4.1: what is fit, and all that differs from it in one field
func TestOneFieldOther(t *testing.T) {
	s := sower(88172645463325252)
	for range 16 {
		changes(s.aType(3), func(ty api.Type, field string) { holds(t, field, ty, ast.FitType(ty), wantType(ty, 1)) })
		changes(s.aPat(3), func(p api.Pat, field string) { holds(t, field, p, ast.FitPat(p), wantPat(p, 1)) })
		changes(s.anExpr(3), func(e api.Expr, field string) { holds(t, field, e, ast.FitExpr(e), wantExpr(e, 1)) })
	}
	changes(sample(), func(p api.Prog, field string) { holds(t, field, p, ast.Fit(p), wantProg(p)) })
}

func holds(t *testing.T, field string, tree any, got, want bool) {
	t.Helper()
	if got != want {
		t.Fatalf("fit is %v, not %v, of what has another %s: %s", got, want, field, short(tree))
	}
}

// P4.1: trees of all sorts, and some that differ from them in one field
func TestFitOfAnything(t *testing.T) {
	s := sower(123456789)
	for range 100 {
		p := s.aProg(4)
		fitsProg(t, true, p)
		fitsType(t, true, s.aType(5))
		fitsPat(t, true, s.aPat(5))
		fitsExpr(t, true, s.anExpr(5))
		changes(p, func(p api.Prog, field string) {
			if s.below(100) == 0 {
				holds(t, field, p, ast.Fit(p), wantProg(p))
			}
		})
	}
}

// P4.1: places play no part
func TestPlacesPlayNoPart(t *testing.T) {
	for _, at := range []api.Pos{{}, {Line: -1, Col: -1}, {Line: math.MaxInt, Col: math.MinInt}} {
		e, p := num(1), anyPat()
		e.At, p.At = at, at
		fitsExpr(t, true, e, match(e, arm(p, e)))
		fitsPat(t, true, p)
		fitsProg(t, true, with(func(q *api.Prog) { q.Datas[0].At, q.Funs[0].At, q.Hands[0].At, q.Init.At = at, at, at, at }))
	}
}
