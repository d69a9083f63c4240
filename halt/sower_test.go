package halt_test

import (
	"math"
	"reflect"

	"handloom/api"
)

// sower gives numbers that look like chance, the same ones each time.
type sower uint64

func (s *sower) below(n int) int {
	x := uint64(*s)
	x ^= x << 13
	x ^= x >> 7
	x ^= x << 17
	*s = sower(x)
	return int(x>>11) % n
}

func pick[T any](s *sower, l ...T) T { return l[s.below(len(l))] }

func some[T any](count int, make func() T) []T {
	var l []T
	for range count {
		l = append(l, make())
	}
	return l
}

func (s *sower) aName() string { return pick(s, "l", "l", "m", "r", "r", "q", "x", "") }

// anyPat is of any form: also of no kind, with what none of its kind has.
func (s *sower) anyPat(depth int) api.Pat {
	p := api.Pat{Kind: pick(s, api.PtAny, api.PtVar, api.PtVar, api.PtInt, api.PtCon, api.PtCon, api.PtCon, api.PtTuple, api.PtTuple, 5, -1), Num: int64(s.below(3))}
	if p.Kind == api.PtVar || s.below(4) == 0 {
		p.Name = s.aName()
	}
	if depth > 1 && (p.Kind >= api.PtCon || s.below(4) == 0) {
		p.Kids = some(s.below(4), func() api.Pat { return s.anyPat(depth - 1) })
	}
	return p
}

// anyExpr is of any form, mostly with matches of names, and with calls of f of some.
func (s *sower) anyExpr(depth int) api.Expr {
	kid := func() api.Expr { return s.anyExpr(depth - 1) }
	e := api.Expr{Kind: s.below(13) - 1, Num: int64(s.below(3)), Name: s.aName()}
	if depth < 2 {
		return pick(s, variable(s.aName()), num(1), call("f", variable(s.aName())), call("f", variable(s.aName()), variable(s.aName())))
	}
	switch s.below(8) {
	case 0, 1, 2:
		return match(variable(s.aName()), some(s.below(4), func() api.Arm { return arm(s.anyPat(3), kid()) })...)
	case 3:
		return call("f", some(s.below(4), func() api.Expr { return variable(s.aName()) })...)
	case 4:
		return pick(s, let(s.aName(), kid(), kid()), loop(2, s.aName(), kid(), num(1)), choose(kid(), kid(), kid()))
	case 5:
		e.Kids = some(s.below(4), kid)
	case 6:
		e.Kids = []api.Expr{kid(), kid()}
		e.Arms = some(s.below(3), func() api.Arm { return arm(s.anyPat(2), kid()) })
	default:
		return s.aimed(depth)
	}
	return e
}

// aimed is often such that there is a call of something lesser in it.
func (s *sower) aimed(depth int) api.Expr {
	name := s.aName()
	body := call("f", some(1+s.below(3), func() api.Expr { return variable(pick(s, name, name, s.aName())) })...)
	if depth > 2 && s.below(3) == 0 {
		body = s.anyExpr(depth - 1)
	}
	p := pick(s, conPat("A", varPat(name)), conPat("A", anyPat(), rowPat(varPat(s.aName()), varPat(name))), rowPat(varPat(name), varPat(s.aName())), s.anyPat(3))
	return match(variable(s.aName()), arm(p, body), arm(s.anyPat(2), num(1)))
}

// anyFun is of any form.
func (s *sower) anyFun() api.Fun {
	return fun(some(s.below(4), func() api.Param { return param(s.aName(), number()) }), s.anyExpr(1+s.below(5)))
}

// going makes functions that mostly go down by one of their parameters.
type going struct {
	*sower
	params []string
	by     int
}

func (s *sower) goingFun() api.Fun {
	g := going{s, []string{"l", "m", "t"}[:1+s.below(3)], 0}
	g.by = s.below(len(g.params))
	return fun(lists(g.params...), g.expr(2+s.below(5), nil, true))
}

// expr is an expression with a call, if there may be one; lesser are names that were so, and mostly are.
func (g going) expr(depth int, lesser []string, may bool) api.Expr {
	if depth < 2 || may && len(lesser) > 0 && g.below(4) == 0 {
		if may && len(lesser) > 0 {
			return g.call(lesser)
		}
		return variable(g.aName())
	}
	// mostly one of two parts may have a call
	first := may && g.below(3) > 0
	second := may && (!first || g.below(40) == 0)
	kid := func(may bool) api.Expr { return g.expr(depth-1, lesser, may) }
	switch g.below(9) {
	case 0:
		return let(g.aName(), kid(first), kid(second))
	case 1:
		return loop(2, g.aName(), kid(may), kid(may && g.below(20) == 0))
	case 2:
		return choose(kid(first), kid(second), kid(second))
	case 3:
		return pick(g.sower, row(kid(first), kid(second)), op(api.OpAdd, kid(second), kid(first)), call("g", kid(first), kid(second)))
	}
	return g.match(depth, lesser, may)
}

func (g going) match(depth int, lesser []string, may bool) api.Expr {
	of := pick(g.sower, append([]string{g.params[g.by], g.params[g.by], g.aName()}, lesser...)...)
	return match(variable(of), some(1+g.below(3), func() api.Arm {
		name := g.aName()
		p := pick(g.sower, conPat("A", varPat(name)), rowPat(anyPat(), varPat(name)), conPat("A", numPat(1), rowPat(varPat(g.aName()), varPat(name))), conPat("A", varPat(name), varPat(g.aName())), varPat(name), anyPat())
		more := lesser
		if len(p.Kids) > 0 {
			more = append([]string{name, name}, lesser...)
		}
		return arm(p, g.expr(depth-1, more, may))
	})...)
}

func (g going) call(lesser []string) api.Expr {
	e := call("f")
	for at := range g.params {
		name := g.aName()
		if at == g.by || g.below(2) == 0 {
			name = pick(g.sower, lesser...)
		}
		e.Kids = append(e.Kids, variable(name))
	}
	if g.below(30) == 0 {
		e.Kids[g.by] = pick(g.sower, num(1), conOf("A", e.Kids[g.by]), variable(g.aName()))
	}
	if g.below(20) == 0 {
		e.Kids = e.Kids[:g.below(len(e.Kids))]
	}
	return e
}

// changes tells each thing that differs from one in one field alone.
func changes[T any](it T, tell func(changed T)) {
	v := reflect.New(reflect.TypeOf(it)).Elem()
	v.Set(reflect.ValueOf(twin(it)))
	changeField(v, func() { tell(v.Interface().(T)) })
}

func changeField(v reflect.Value, tell func()) {
	old := reflect.New(v.Type()).Elem()
	old.Set(v)
	for _, n := range others(old) {
		v.Set(n)
		tell()
	}
	v.Set(old)
	switch v.Kind() {
	case reflect.Struct:
		for i := range v.NumField() {
			changeField(v.Field(i), tell)
		}
	case reflect.Slice:
		for i := range v.Len() {
			changeField(v.Index(i), tell)
		}
	}
}

// others is what may stand for a number, a byte, a name, or a list; of structs none: their fields have others.
func others(old reflect.Value) []reflect.Value {
	var l []reflect.Value
	switch old.Kind() {
	case reflect.Struct:
	case reflect.Slice:
		l = otherLists(old)
	case reflect.String:
		for _, s := range []string{"", "f", "g", "l", "m", "r", "q", "x", "state", "Nil", "Cons", "list", "\xff"} {
			l = append(l, reflect.ValueOf(s))
		}
	case reflect.Uint8:
		l = append(l, reflect.ValueOf(uint8(old.Uint()+1)))
	default:
		for _, n := range []int64{0, 1, 2, 3, 4, 5, 6, 7, 8, 9, 10, 11, 64, math.MaxInt64, -1, math.MinInt64} {
			l = append(l, reflect.ValueOf(n).Convert(old.Type()))
		}
	}
	return l
}

// otherLists is none, one without the last part, with the first part last, with the last part twice, and with a zero part more.
func otherLists(old reflect.Value) []reflect.Value {
	copied := func() reflect.Value { return reflect.AppendSlice(reflect.MakeSlice(old.Type(), 0, 0), old) }
	l := []reflect.Value{reflect.Zero(old.Type()), reflect.Append(copied(), reflect.Zero(old.Type().Elem()))}
	if n := old.Len(); n > 0 {
		l = append(l, old.Slice3(0, n-1, n-1), reflect.AppendSlice(copied().Slice(1, n), old.Slice(0, 1)), reflect.Append(copied(), old.Index(n-1)))
	}
	return l
}
