package show_test

import (
	"math"
	"reflect"
	"strings"
	"testing"

	"handloom/api"
	"handloom/ast"
	"handloom/show"
)

// twin is a copy of any tree, just as it is.
func twin[T any](tree T) T {
	out := reflect.New(reflect.TypeOf(tree)).Elem()
	copyTree(out, reflect.ValueOf(tree))
	return out.Interface().(T)
}

func copyTree(to, from reflect.Value) {
	switch from.Kind() {
	case reflect.Struct:
		for i := range from.NumField() {
			copyTree(to.Field(i), from.Field(i))
		}
	case reflect.Slice:
		if from.IsNil() {
			return
		}
		to.Set(reflect.MakeSlice(from.Type(), from.Len(), from.Len()))
		for i := range from.Len() {
			copyTree(to.Index(i), from.Index(i))
		}
	default:
		to.Set(from)
	}
}

// edgeNumbers are those at which a field may begin, or cease, to be right.
func edgeNumbers() []int64 {
	return []int64{
		0, 1, 2, 3, 4, 5, 6, 7, 8, 9, 10, 11, 12, 16, 17, 32, 33, 64, 65, 256, 257, 1000, 1001, most, most + 1, math.MaxInt64,
		-1, -2, -1000, -most, -most - 1, math.MinInt64,
	}
}

// edgeNames are names of both kinds, those that may stand in some places alone, and what is none.
func edgeNames() []string {
	return []string{
		"", "x", "X", "int", "bytes", "len", "at", "cat", "cut", "state", "State", "queue", "in", "of", "end", "é", "É", "x_9é", "X_9é",
		"_", "9", "x y", " x", "x ", "x\n", "x#", "(x)", "\"x\"", "~1", "\xff", "x\xff", "\x00", "x\x00", "\u2028", "\U0010ffff",
		strings.Repeat("a", 24), strings.Repeat("a", 25), "A" + strings.Repeat("b", 23), "A" + strings.Repeat("b", 24),
		strings.Repeat("\U0001f600", 24), strings.Repeat("\U0001f600", 25), strings.Repeat("a", 1<<15),
	}
}

// changes tells each tree that differs from one in one field alone; what is told is laid back behind each.
func changes[T any](tree T, tell func(changed T)) {
	v := reflect.New(reflect.TypeOf(tree)).Elem()
	v.Set(reflect.ValueOf(twin(tree)))
	changeField(v, func() { tell(v.Interface().(T)) })
}

func changeField(v reflect.Value, tell func()) {
	old := reflect.New(v.Type()).Elem()
	old.Set(v)
	for _, n := range others(old) {
		v.Set(n)
		tell()
	}
	v.Set(old)
	switch v.Kind() {
	case reflect.Struct:
		for i := range v.NumField() {
			changeField(v.Field(i), tell)
		}
	case reflect.Slice:
		for i := range v.Len() {
			changeField(v.Index(i), tell)
		}
	}
}

// others is what may stand for a number, a name, or a list; of structs none: their fields have others.
func others(old reflect.Value) []reflect.Value {
	var l []reflect.Value
	switch old.Kind() {
	case reflect.Struct:
	case reflect.Slice:
		zero := reflect.Zero(old.Type().Elem())
		empty := reflect.MakeSlice(old.Type(), 0, 0)
		more := reflect.Append(reflect.AppendSlice(empty, old), zero)
		l = append(l, reflect.Zero(old.Type()), empty, more)
		for range api.MaxFuns {
			more = reflect.Append(more, zero)
		}
		l = append(l, more)
		if n := old.Len(); n > 0 {
			l = append(l, old.Slice3(0, n-1, n-1), reflect.Append(reflect.AppendSlice(empty, old), old.Index(n-1)))
		}
	case reflect.String:
		for _, s := range edgeNames() {
			l = append(l, reflect.ValueOf(s))
		}
	default:
		for _, n := range edgeNumbers() {
			l = append(l, reflect.ValueOf(n).Convert(old.Type()))
		}
	}
	return l
}

// differ is how many bytes two texts begin with that are the same.
func differ(a, b string) int {
	at := 0
	for at < min(len(a), len(b)) && a[at] == b[at] {
		at++
	}
	return at
}

// tellsAll wants of each change of a tree its text, if it is fit, else none.
func tellsAll[T any](t *testing.T, tree T, fit func(T) bool, told, want func(T) string) {
	t.Helper()
	fits, misfits := 0, 0
	changes(tree, func(c T) {
		text := ""
		if fit(c) {
			fits++
			text = want(c)
		} else {
			misfits++
		}
		if got := told(c); got != text {
			at := differ(got, text)
			t.Fatalf("of %s\n%q is told, want\n%q, from byte %d on", short(c), short(got[at:]), short(text[at:]), at)
		}
	})
	if fits == 0 || misfits == 0 {
		t.Errorf("of the changes of %s %d were fit, %d not", short(tree), fits, misfits)
	}
}

// P6.1, P6.2: one field that is another one, in each part of each kind
func TestOneFieldIsAnother(t *testing.T) {
	s := sower(521288629)
	tellsAll(t, sample(), ast.Fit, show.Prog, wantProg)
	for i := range 6 {
		tellsAll(t, s.aProg(1+i%2), ast.Fit, show.Prog, wantProg)
		tellsAll(t, s.aPat(3), ast.FitPat, show.Pat, wantPat)
		tellsAll(t, s.aType(3), ast.FitType, show.Type, wantType)
	}
	for range 60 {
		tellsAll(t, s.anExpr(2), ast.FitExpr, show.Expr, wantExpr)
	}
	for _, wrap := range wraps() {
		tellsAll(t, wrap(variable("a")), ast.FitExpr, show.Expr, wantExpr)
	}
}

// badExprs are none of them fit.
func badExprs() []api.Expr {
	x := variable("x")
	return []api.Expr{
		{Kind: 11}, {Kind: -1}, {Kind: math.MaxInt}, num(most + 1), num(-most - 1), num(math.MinInt64), {Num: 1, Name: "x"}, variable(""), variable("X"),
		variable("in"), variable("x y"), variable(strings.Repeat("a", 25)), con("a"), con(""), con("A", times(7, x)...), tuple(), tuple(x), tuple(times(7, x)...),
		call("f"), call("len", x), call("int", x), call("F", x), call("f", times(7, x)...), let("X", x, x), let("state", x, x), cond(x, x), cond(x, x, x, x),
		match(x), match(x, times(33, arm(anyPat(), x))...), match(x, arm(varPat("X"), x)), match(x, arm(tuplePat(anyPat()), x)), op(12, x, x), op(-1, x, x),
		op(api.OpAdd, x), op(api.OpAdd, x, x, x), op(api.OpLen, x, x), op(api.OpCut, x, x), loop(-1, "x", x, x), loop(1001, "x", x, x), loop(1, "", x, x),
		text(strings.Repeat("a", 65)), {Kind: api.ExVar, Name: "x", Bytes: []byte("a")}, {Kind: api.ExVar, Name: "x", Kids: []api.Expr{x}},
		{Kind: api.ExInt, Arms: []api.Arm{{}}},
	}
}

func badPats() []api.Pat {
	return []api.Pat{
		{Kind: 5}, {Kind: -1}, {Kind: math.MinInt}, {Name: "x"}, {Num: 1}, varPat(""), varPat("X"), varPat("state"), numPat(most + 1), numPat(-most - 1), numPat(math.MinInt64),
		conPat("a"), conPat("A", times(7, anyPat())...), tuplePat(), tuplePat(anyPat()), tuplePat(times(7, anyPat())...), {Kind: api.PtInt, Kids: []api.Pat{{}}},
	}
}

func badTypes() []api.Type {
	return []api.Type{
		{Kind: 4}, {Kind: -1}, {Name: "t"}, {Kind: api.TyBytes, Name: "bytes"}, data(""), data("int"), data("bytes"), data("T"), data("of"),
		tupleType(), tupleType(data("t")), tupleType(times(7, data("t"))...), {Parts: []api.Type{{}, {}}},
	}
}

func none(t *testing.T, what any, got string) {
	t.Helper()
	if got != "" {
		t.Errorf("%q is told of what is not fit: %s", short(got), short(what))
	}
}

// P6.1, P6.2: a part that is not fit, however deep it stands
func TestPartsThatAreNotFit(t *testing.T) {
	for _, bad := range badExprs() {
		none(t, bad, show.Expr(bad))
		for _, wrap := range wraps() {
			for _, depth := range []int{1, 2, 20, 63} {
				e := nested(depth, bad, wrap)
				none(t, e, show.Expr(e))
			}
		}
		for _, p := range []api.Prog{inInit(bad), inFun(bad), inHand(bad), inInit(wraps()[3](bad))} {
			none(t, p, show.Prog(p))
		}
	}
	for _, bad := range badPats() {
		none(t, bad, show.Pat(bad))
		for _, wrap := range patWraps() {
			for _, depth := range []int{0, 1, 2, 62} {
				p := nested(depth, bad, wrap)
				e := match(num(1), arm(anyPat(), num(1)), arm(p, num(1)))
				none(t, p, show.Pat(p))
				none(t, e, show.Expr(e))
				none(t, e, show.Prog(inHand(e)))
			}
		}
	}
	for _, bad := range badTypes() {
		none(t, bad, show.Type(bad))
		for _, wrap := range typeWraps() {
			for _, depth := range []int{0, 1, 2, 63} {
				ty := nested(depth, bad, wrap)
				none(t, ty, show.Type(ty))
				for _, p := range withType(ty) {
					none(t, p, show.Prog(p))
				}
			}
		}
	}
}

func inInit(e api.Expr) api.Prog {
	p := sample()
	p.Init = e
	return p
}

func inFun(e api.Expr) api.Prog {
	p := sample()
	p.Funs[1].Body = e
	return p
}

func inHand(e api.Expr) api.Prog {
	p := sample()
	p.Hands[1].Body = e
	return p
}

// withType is programs that have a type in one of the places for one.
func withType(ty api.Type) []api.Prog {
	l := some(5, sample)
	l[0].State = ty
	l[1].Datas[0].Cons[1].Fields[1] = ty
	l[2].Funs[1].Params[1].Type = ty
	l[3].Funs[0].Result = ty
	l[4].Hands[1].Param.Type = ty
	return l
}

// P6.1, P6.2, 0.1: deeper than may be
func TestDeeperThanMayBe(t *testing.T) {
	for _, depth := range []int{api.MaxDepth, api.MaxDepth + 1, 1 << 14, 1<<16 - 1} {
		for i, wrap := range wraps() {
			if depth > 100 && i%7 != 0 {
				continue
			}
			e := nested(depth, variable("a"), wrap)
			none(t, e.Kind, show.Expr(e))
			none(t, e.Kind, show.Prog(inInit(e)))
			none(t, e.Kind, show.Prog(inFun(e)))
		}
		for _, wrap := range patWraps() {
			p := nested(depth, varPat("a"), wrap)
			none(t, p.Kind, show.Pat(p))
			none(t, p.Kind, show.Expr(match(num(1), arm(p, num(1)))))
			if depth > api.MaxDepth {
				continue
			}
			// just as deep as a pattern may be, but not within a match
			p = nested(depth-1, varPat("a"), wrap)
			e := match(num(1), arm(p, num(1)))
			if show.Pat(p) == "" {
				t.Errorf("nothing is told of a pattern that is %d deep", depth)
			}
			none(t, e.Kind, show.Expr(e))
		}
		for _, wrap := range typeWraps() {
			ty := nested(depth, data("a"), wrap)
			none(t, ty.Kind, show.Type(ty))
			for _, p := range withType(ty) {
				none(t, p.Queue, show.Prog(p))
			}
		}
	}
}

// P6.1, P6.2: wider than may be
func TestWiderThanMayBe(t *testing.T) {
	const wide = 1 << 15
	none(t, "tuple", show.Expr(tuple(times(wide, num(1))...)))
	none(t, "match", show.Expr(match(num(1), times(wide, arm(anyPat(), num(1)))...)))
	none(t, "pattern", show.Pat(tuplePat(times(wide, anyPat())...)))
	none(t, "type", show.Type(tupleType(times(wide, api.Type{})...)))
	p := sample()
	for _, count := range []int{1, wide} {
		q := p
		q.Datas = times(api.MaxDatas+count, p.Datas[0])
		none(t, "types", show.Prog(q))
		q = p
		q.Funs = times(api.MaxFuns+count, p.Funs[0])
		none(t, "functions", show.Prog(q))
		q = p
		q.Hands = times(api.MaxHands+count, p.Hands[0])
		none(t, "handlers", show.Prog(q))
	}
	none(t, "nothing", show.Prog(api.Prog{}))
}

// 0.5: what is given is not changed, and what is told is the same each time
func TestNothingIsChanged(t *testing.T) {
	s := sower(362436069)
	for i := range 200 {
		p := s.aProg(1 + i%5)
		q := api.Prog{Queue: i, Datas: p.Datas, Init: match(p.Init, arm(s.aPat(3), p.Init), arm(anyPat(), badExprs()[i%40]))}
		wasP, wasQ := twin(p), twin(q)
		first := show.Prog(p) + show.Prog(q) + show.Expr(p.Init) + show.Expr(q.Init) + show.Type(p.State) + show.Pat(q.Init.Arms[0].Pat)
		if !reflect.DeepEqual(p, wasP) || !reflect.DeepEqual(q, wasQ) {
			t.Fatalf("%s was changed to %s", short(wasP), short(p))
		}
		again := show.Prog(p) + show.Prog(q) + show.Expr(p.Init) + show.Expr(q.Init) + show.Type(p.State) + show.Pat(q.Init.Arms[0].Pat)
		if first != again {
			t.Fatalf("of %s another text is told the second time", short(p))
		}
	}
}

// P6.1, P6.2: places play no part
func TestPlacesAreNotShown(t *testing.T) {
	s := sower(123456789)
	for i := range 200 {
		p := s.aProg(1 + i%5)
		if b := ast.Bare(p); show.Prog(b) != show.Prog(p) || show.Expr(b.Init) != show.Expr(p.Init) {
			t.Fatalf("the text of %s hangs on places", short(p))
		}
	}
}
