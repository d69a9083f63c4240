package ast_test

import (
	"reflect"
	"slices"
	"strconv"
	"testing"

	"handloom/api"
	"handloom/ast"
)

// askAll makes each call that takes a part of a tree, of all of its parts.
func askAll(v reflect.Value) {
	switch part := v.Interface().(type) {
	case api.Prog:
		ast.Fit(part)
		ast.Same(part, part)
		ast.Bare(part)
	case api.Type:
		ast.FitType(part)
	case api.Pat:
		ast.FitPat(part)
	case api.Expr:
		ast.FitExpr(part)
		ast.SameExpr(part, part)
		ast.Nodes(part)
		ast.Free(part)
	}
	switch v.Kind() {
	case reflect.Struct:
		for i := range v.NumField() {
			askAll(v.Field(i))
		}
	case reflect.Slice:
		for i := range v.Len() {
			askAll(v.Index(i))
		}
	}
}

// 0.5: what is given is not changed
func TestNothingIsChanged(t *testing.T) {
	for _, p := range progs() {
		was, q := twin(p), moved(p)
		before := twin(q)
		askAll(reflect.ValueOf(p))
		ast.Same(p, q)
		ast.SameExpr(q.Init, p.Init)
		if !reflect.DeepEqual(p, was) || !reflect.DeepEqual(q, before) {
			t.Fatalf("%s was changed to %s", short(was), short(p))
		}
	}
}

// room is memory that a list has: where it begins, and where it ends.
type room struct{ from, to uintptr }

// rooms is that of all lists of a tree.
func rooms(v reflect.Value, l []room) []room {
	switch v.Kind() {
	case reflect.Struct:
		for i := range v.NumField() {
			l = rooms(v.Field(i), l)
		}
	case reflect.Slice:
		if size := uintptr(v.Cap()) * v.Type().Elem().Size(); size > 0 {
			l = append(l, room{v.Pointer(), v.Pointer() + size})
		}
		for i := range v.Len() {
			l = rooms(v.Index(i), l)
		}
	}
	return l
}

// 0.5: what Bare tells is new memory, and no two of its lists share any
func TestBareSharesNothing(t *testing.T) {
	for _, p := range progs() {
		p = twin(p) // what is given may share memory within itself
		b := ast.Bare(p)
		l := rooms(reflect.ValueOf(b), rooms(reflect.ValueOf(p), nil))
		slices.SortFunc(l, func(a, b room) int { return int(a.from) - int(b.from) })
		for i := range len(l) - 1 {
			if l[i].to > l[i+1].from {
				t.Fatalf("Bare(%s) shares memory", short(p))
			}
		}
	}
}

// 0.5: nor is a list of names another call's
func TestFreeSharesNothing(t *testing.T) {
	e := tuple(variable("x"), variable("y"), variable("z"))
	a, b := ast.Free(e), ast.Free(e)
	a[0] = "q"
	_ = append(a[:2], "r")
	leansOn(t, e, "x", "y", "z")
	if b[0] != "x" || b[2] != "z" {
		t.Error("names that Free told are shared")
	}
}

// 0.1: as many parts within one another as may be
func TestDeepTrees(t *testing.T) {
	for i, wrap := range wraps() {
		if i%6 != 0 {
			continue
		}
		a, b := nested(manyDeep, variable("a"), wrap), nested(manyDeep, variable("b"), wrap)
		if ast.FitExpr(a) || ast.SameExpr(a, b) || !ast.SameExpr(a, a) {
			t.Error("deep expressions: fit, or the same as others, or not as themselves")
		}
		exprs, _ := ast.Nodes(a)
		one, _ := ast.Nodes(wrap(num(1)))
		if want := manyDeep*(one-1) + 1; exprs != want {
			t.Errorf("a deep expression has %d, want %d", exprs, want)
		}
		if l := ast.Free(a); !slices.Contains(l, "a") || len(l) > 2 {
			t.Errorf("a deep expression leans on %q", l)
		}
		if p := ast.Bare(api.Prog{Init: a}); !ast.SameExpr(p.Init, a) || ast.Fit(p) {
			t.Error("a deep expression is another one without places")
		}
	}
	for _, wrap := range patWraps() {
		a, b := nested(manyDeep, varPat("a"), wrap), nested(manyDeep, varPat("b"), wrap)
		inA, inB := match(num(1), arm(a, variable("a"))), match(num(1), arm(b, variable("a")))
		if ast.FitPat(a) || ast.FitExpr(inA) || ast.SameExpr(inA, inB) || !ast.SameExpr(inB, ast.Bare(api.Prog{Init: inB}).Init) {
			t.Error("deep patterns: fit, or the same as others, or not as themselves")
		}
		leansOnDeep(t, inA)
		leansOnDeep(t, inB, "a")
		_, pats := ast.Nodes(inA)
		_, one := ast.Nodes(match(num(1), arm(wrap(anyPat()), num(1))))
		if want := manyDeep*(one-1) + 1; pats != want {
			t.Errorf("a deep pattern has %d, want %d", pats, want)
		}
	}
	ty := nested(manyDeep, data("a"), func(p api.Type) api.Type { return api.Type{Kind: api.TyTuple, Parts: []api.Type{p}} })
	other := nested(manyDeep, data("b"), func(p api.Type) api.Type { return api.Type{Kind: api.TyTuple, Parts: []api.Type{p}} })
	p, q := api.Prog{Queue: 1, State: ty}, api.Prog{Queue: 1, State: other}
	if ast.FitType(ty) || ast.Fit(p) || ast.Same(p, q) || !ast.Same(p, ast.Bare(p)) {
		t.Error("deep types: fit, or the same as others, or not as themselves")
	}
}

func leansOnDeep(t *testing.T, e api.Expr, want ...string) {
	t.Helper()
	if got := ast.Free(e); !slices.Equal(got, want) {
		t.Errorf("Free = %q, want %q", got, want)
	}
}

// 0.1: as many parts beside one another as may be, each with a name of its own
func TestWideTrees(t *testing.T) {
	var vars, lets []api.Expr
	var arms []api.Arm
	var pats []api.Pat
	var names []string
	for i := range manyDeep {
		name := "x" + strconv.Itoa(i)
		names = append(names, name)
		vars, pats = append(vars, variable(name)), append(pats, varPat(name))
		if i%4 == 0 {
			lets, arms = append(lets, let(name, num(1), variable(name))), append(arms, arm(varPat(name), variable(name)))
		}
	}
	leansOnDeep(t, tuple(vars...), names...)
	leansOnDeep(t, tuple(lets...))
	leansOnDeep(t, match(num(1), arms...))
	leansOnDeep(t, match(num(1), arm(tuplePat(pats...), tuple(vars...))))
	leansOnDeep(t, match(num(1), arm(tuplePat(pats[1:]...), tuple(vars...))), "x0")
	if exprs, n := ast.Nodes(match(tuple(vars...), arm(tuplePat(pats...), tuple()))); exprs != manyDeep+3 || n != manyDeep+1 {
		t.Errorf("Nodes of a wide match: %d %d", exprs, n)
	}
	if ast.FitExpr(tuple(vars...)) || ast.FitPat(tuplePat(pats...)) || ast.FitExpr(match(num(1), arms...)) {
		t.Error("what is too wide is fit")
	}
	p := api.Prog{Queue: 1, Init: match(tuple(vars...), arms...)}
	last := twin(p)
	last.Init.Arms[len(arms)-1].Body.Name = "y"
	if b := ast.Bare(p); !ast.Same(p, b) || ast.Same(p, last) || ast.Fit(p) {
		t.Error("a wide program is another one without places, or the same as another")
	}
}
