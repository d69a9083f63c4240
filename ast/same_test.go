package ast_test

import (
	"reflect"
	"slices"
	"testing"

	"handloom/api"
	"handloom/ast"
)

// sameProgs wants two programs to be the same, or not, in both orders.
func sameProgs(t *testing.T, want bool, what string, a, b api.Prog) {
	t.Helper()
	if ast.Same(a, b) != want || ast.Same(b, a) != want {
		t.Fatalf("Same of two programs that differ in %s is not %v:\n%s\n%s", what, want, short(a), short(b))
	}
}

func sameExprs(t *testing.T, want bool, what string, a, b api.Expr) {
	t.Helper()
	if ast.SameExpr(a, b) != want || ast.SameExpr(b, a) != want {
		t.Fatalf("SameExpr of two that differ in %s is not %v:\n%s\n%s", what, want, short(a), short(b))
	}
}

// crowded is an expression that has all fields, as none that is fit has: what is the same does not hang on kinds.
func crowded() api.Expr {
	p := api.Pat{Kind: api.PtTuple, Name: "q", Num: 4, Kids: []api.Pat{varPat("a"), numPat(2)}}
	return api.Expr{Kind: api.ExFor, Num: 7, Bytes: []byte("ab"), Name: "k", Kids: []api.Expr{num(1), text("b"), call("f", num(2))},
		Arms: []api.Arm{arm(p, num(3)), arm(conPat("B", p), let("v", num(1), num(2)))}}
}

// P4.2: each field by itself
func TestSameByOneField(t *testing.T) {
	seen := map[string]int{}
	for _, e := range append(kinds(), crowded(), api.Expr{}) {
		sameExprs(t, true, "nothing", e, twin(e))
		changes(e, func(c api.Expr, field string) {
			want := wantSame(e, c)
			sameExprs(t, want, field, e, c)
			if !want {
				seen[field]++
			}
		})
	}
	p := sample()
	p.Init = crowded()
	p.Datas[0].Cons[1].Fields[0] = api.Type{Kind: api.TyTuple, Name: "t", Parts: []api.Type{data("a")}}
	for _, p := range []api.Prog{p, sample(), {}} {
		sameProgs(t, true, "nothing", p, twin(p))
		changes(p, func(c api.Prog, field string) {
			want := wantSame(p, c)
			sameProgs(t, want, field, p, c)
			if !want {
				seen[field]++
			}
		})
	}
	for _, field := range []string{
		"Prog.Datas", "Prog.Funs", "Prog.Queue", "Prog.Timers", "Prog.Cap", "Prog.Hands", "Type.Kind", "Type.Name", "Type.Parts",
		"Data.Name", "Data.Cons", "Con.Name", "Con.Fields", "Fun.Name", "Fun.Params", "Param.Name", "Hand.Name", "Hand.Cap",
		"Expr.Kind", "Expr.Num", "Expr.Bytes", "Expr.Bytes[]", "Expr.Name", "Expr.Kids", "Expr.Arms", "Pat.Kind", "Pat.Name", "Pat.Num", "Pat.Kids",
	} {
		if seen[field] == 0 {
			t.Errorf("nothing was tried that differs in %s", field)
		}
	}
	for _, field := range []string{"Pos.Line", "Pos.Col"} {
		if seen[field] != 0 {
			t.Errorf("by the chapter what differs in %s is the same", field)
		}
	}
}

// P4.2: whole parts that a program has in one place each
func TestSameByOnePart(t *testing.T) {
	a := sample()
	for _, change := range []func(p *api.Prog){
		func(p *api.Prog) { p.State = api.Type{Kind: api.TyBytes} },
		func(p *api.Prog) { p.State.Parts[1] = api.Type{} },
		func(p *api.Prog) { p.Init = num(4) },
		func(p *api.Prog) { p.Init.Kids[1].Bytes = []byte("a") },
		func(p *api.Prog) { p.Funs[0].Result = data("list") },
		func(p *api.Prog) { p.Funs[0].Body = num(4) },
		func(p *api.Prog) { p.Funs[0].Params[1].Type = data("list") },
		func(p *api.Prog) { p.Hands[0].Param = api.Param{Name: "n"} },
		func(p *api.Prog) { p.Hands[0].Body = num(4) },
		func(p *api.Prog) { p.Datas, p.Funs = nil, nil },
		func(p *api.Prog) { slices.Reverse(p.Datas[0].Cons) },
		func(p *api.Prog) { slices.Reverse(p.Funs[0].Params) },
		func(p *api.Prog) { slices.Reverse(p.Funs[0].Body.Arms) },
		func(p *api.Prog) { slices.Reverse(p.Init.Kids) },
	} {
		b := sample()
		change(&b)
		sameProgs(t, false, "a part", a, b)
		sameProgs(t, true, "nothing", b, twin(b))
	}
	sameExprs(t, false, "a pattern's last kid", match(num(1), arm(tuplePat(anyPat(), varPat("x")), num(1))), match(num(1), arm(tuplePat(anyPat(), varPat("y")), num(1))))
	sameExprs(t, false, "an arm that is one more", match(num(1), arm(anyPat(), num(1))), match(num(1), arm(anyPat(), num(1)), arm(anyPat(), num(1))))
	sameExprs(t, false, "a kid that is one more", con("A", num(1)), con("A", num(1), num(0)))
	sameExprs(t, false, "bytes", text("ab"), text("ac"))
	sameExprs(t, false, "how many bytes", text("a"), text("a\x00"))
	sameExprs(t, true, "an empty list", con("A"), con("A", []api.Expr{}...))
	sameExprs(t, true, "empty lists", api.Expr{}, api.Expr{Bytes: []byte{}, Kids: []api.Expr{}, Arms: []api.Arm{}})
}

// moved is a tree with all places other than they were, and empty lists for none.
func moved[T any](tree T) T {
	v := reflect.New(reflect.TypeOf(tree)).Elem()
	v.Set(reflect.ValueOf(twin(tree)))
	move(v, 1)
	return v.Interface().(T)
}

func move(v reflect.Value, by int64) {
	switch v.Kind() {
	case reflect.Struct:
		if v.Type() == reflect.TypeFor[api.Pos]() {
			v.Field(0).SetInt(v.Field(0).Int() + by)
			v.Field(1).SetInt(v.Field(1).Int() - 3*by)
			return
		}
		for i := range v.NumField() {
			move(v.Field(i), by+int64(i))
		}
	case reflect.Slice:
		if v.IsNil() {
			v.Set(reflect.MakeSlice(v.Type(), 0, 3))
		}
		for i := range v.Len() {
			move(v.Index(i), by+int64(i))
		}
	}
}

// progs are programs of all sorts, fit ones and others.
func progs() []api.Prog {
	s := sower(362436069)
	l := []api.Prog{{}, {Queue: 1}, sample(), moved(sample()), {Init: crowded()}, {Init: moved(crowded()), Hands: []api.Hand{{Body: crowded()}}}}
	for range 40 {
		p := s.aProg(4)
		l = append(l, p, moved(p))
	}
	return l
}

// P4.2: trees that differ in places, and in empty lists, alone
func TestSameWithoutPlaces(t *testing.T) {
	for _, p := range progs() {
		sameProgs(t, true, "places", p, moved(p))
		sameExprs(t, true, "places", p.Init, moved(p.Init))
	}
}

// P4.2
func TestBare(t *testing.T) {
	for _, p := range progs() {
		got := ast.Bare(p)
		if want := bare(p); !reflect.DeepEqual(got, want) {
			t.Errorf("Bare(%s)\n = %s, want\n %s", short(p), short(got), short(want))
		}
	}
	p := sample()
	p.Init = api.Expr{At: api.Pos{Line: 1, Col: 1}, Kind: 77, Kids: []api.Expr{{At: api.Pos{Line: 2, Col: 2}, Bytes: []byte{}}},
		Arms: []api.Arm{{Pat: api.Pat{At: api.Pos{Line: 3, Col: 3}, Kids: []api.Pat{{At: api.Pos{Line: 4, Col: 4}, Num: 9}}}, Body: api.Expr{At: api.Pos{Line: 5, Col: 5}}}}}
	b := ast.Bare(p)
	if b.Datas[0].At != (api.Pos{}) || b.Funs[0].At != (api.Pos{}) || b.Hands[0].At != (api.Pos{}) || b.Init.At != (api.Pos{}) || b.Init.Kids[0].At != (api.Pos{}) {
		t.Error("Bare leaves a place of a declaration, or of an expression")
	}
	if in := b.Init.Arms[0]; in.Pat.At != (api.Pos{}) || in.Pat.Kids[0].At != (api.Pos{}) || in.Body.At != (api.Pos{}) || in.Pat.Kids[0].Num != 9 {
		t.Error("Bare leaves a place of an arm, or drops something else")
	}
}

// P4.5: Same is an equality; Bare of Bare is Bare, and the same
func TestEquality(t *testing.T) {
	l := progs()[:30]
	for _, a := range l {
		sameProgs(t, true, "nothing", a, a)
		b := ast.Bare(a)
		sameProgs(t, true, "places", a, b)
		if again := ast.Bare(b); !reflect.DeepEqual(again, b) {
			t.Errorf("Bare of Bare of %s is another", short(a))
		}
		if ast.Fit(a) != ast.Fit(b) || ast.FitExpr(a.Init) != ast.FitExpr(b.Init) {
			t.Errorf("%s is fit, or not, by its places", short(a))
		}
		for _, b := range l {
			sameProgs(t, wantSame(a, b), "anything", a, b)
			sameExprs(t, wantSame(a.Init, b.Init), "anything", a.Init, b.Init)
			for _, c := range l {
				if ast.Same(a, b) && ast.Same(b, c) && !ast.Same(a, c) {
					t.Error("the same as the same, but not the same")
				}
			}
		}
	}
}

// P4.5: what is fit has fit parts
func TestFitPartsOfWhatIsFit(t *testing.T) {
	for _, p := range progs() {
		if ast.Fit(p) {
			fitParts(t, reflect.ValueOf(p))
		}
		if ast.FitExpr(p.Init) {
			fitParts(t, reflect.ValueOf(p.Init))
		}
	}
	deep := nested(63, num(1), func(e api.Expr) api.Expr { return op(api.OpAdd, num(1), e) })
	fitParts(t, reflect.ValueOf(deep))
}

func fitParts(t *testing.T, v reflect.Value) {
	t.Helper()
	switch part := v.Interface().(type) {
	case api.Type:
		fitsType(t, true, part)
	case api.Pat:
		fitsPat(t, true, part)
	case api.Expr:
		fitsExpr(t, true, part)
	}
	switch v.Kind() {
	case reflect.Struct:
		for i := range v.NumField() {
			fitParts(t, v.Field(i))
		}
	case reflect.Slice:
		for i := range v.Len() {
			fitParts(t, v.Index(i))
		}
	}
}
