package check_test

import (
	"fmt"
	"reflect"
	"slices"
	"strings"
	"testing"

	"handloom/api"
	"handloom/check"
	"handloom/ty"
)

// given is what the three calls may be given.
type given struct {
	p   api.Prog
	env []api.Param
	e   api.Expr
	pat api.Pat
	t   api.Type
}

// all are such of all sorts, fit ones and others, with empty lists, too.
func all(t *testing.T) []given {
	s := sower(521288629)
	m, _ := newMaker(t, &s)
	l := []given{{}, {
		api.Prog{Datas: []api.Data{{Cons: []api.Con{{Fields: []api.Type{{Parts: []api.Type{}}}}}}}, Funs: []api.Fun{}, Hands: []api.Hand{}},
		[]api.Param{}, api.Expr{Bytes: []byte{}, Kids: []api.Expr{}, Arms: []api.Arm{}}, api.Pat{Kids: []api.Pat{}}, api.Type{Parts: []api.Type{}},
	}}
	own := home(t).Datas
	for range 150 {
		m.slip = 100
		p := numbered(m.prog(own))
		env := append(m.env(), param("w", s.anyType([]string{"list", "none"}, 4)))
		of := tuple(m.aType(), m.aType())
		l = append(l, given{p, env, numbered(row(m.expr(of, env, 4), variable("w"))), numbered(m.pat(of, 4, map[string]int{})), of})
	}
	return l
}

// told is what the three calls tell.
type told struct {
	fault, ofPat, ofExpr api.Fault
	names                []api.Param
	of                   api.Type
}

func (g given) ask() told {
	a := told{fault: check.Check(g.p)}
	a.names, a.ofPat = check.Binds(ty.Datas(g.p), g.pat, g.t)
	a.of, a.ofExpr = check.TypeOf(g.p, g.env, g.e)
	return a
}

// 0.5: what is given is not changed, nor what lies behind it
func TestNothingIsChanged(t *testing.T) {
	for _, g := range all(t) {
		l := append(make([]api.Data, 0, len(g.p.Datas)+9), g.p.Datas...)
		g.p.Datas = l
		g.env = append(make([]api.Param, 0, len(g.env)+9), g.env...)
		room, names := l[:cap(l)], g.env[:cap(g.env)]
		was, wasRoom, wasNames := twin(g.p), twin(room), twin(names)
		e, p, of := twin(g.e), twin(g.pat), twin(g.t)
		g.ask()
		check.Binds(l, g.pat, g.t)
		if !reflect.DeepEqual(g.p, was) || !reflect.DeepEqual(room, wasRoom) || !reflect.DeepEqual(names, wasNames) {
			t.Fatalf("%s, or names, were changed to %s", short(was), short(g.p))
		}
		if !reflect.DeepEqual(g.e, e) || !reflect.DeepEqual(g.pat, p) || !reflect.DeepEqual(g.t, of) {
			t.Fatalf("%s, %s or %s was changed", short(e), short(p), short(of))
		}
	}
}

// room is memory that a list has: where it begins, and where it ends.
type room struct{ from, to uintptr }

// rooms is that of all lists in something.
func rooms(v reflect.Value, l []room) []room {
	switch v.Kind() {
	case reflect.Struct:
		for i := range v.NumField() {
			l = rooms(v.Field(i), l)
		}
	case reflect.Slice:
		if size := uintptr(v.Cap()) * v.Type().Elem().Size(); size > 0 {
			l = append(l, room{v.Pointer(), v.Pointer() + size})
		}
		for i := range v.Len() {
			l = rooms(v.Index(i), l)
		}
	}
	return l
}

// apart wants no two lists in some things to share memory.
func apart(t *testing.T, things ...any) {
	t.Helper()
	var l []room
	for _, it := range things {
		l = rooms(reflect.ValueOf(it), l)
	}
	slices.SortFunc(l, func(a, b room) int { return int(a.from) - int(b.from) })
	for i := range len(l) - 1 {
		if l[i].to > l[i+1].from {
			t.Fatalf("of %s two lists share memory", short(things))
		}
	}
}

// 0.5: what is told is new memory, and no two of its lists share any; 0.7: an empty list is none
func TestAnswersShareNothing(t *testing.T) {
	types, names := 0, 0
	for _, g := range all(t) {
		// what is given may share memory within itself
		g.p, g.env, g.e, g.pat, g.t = twin(g.p), twin(g.env), twin(g.e), twin(g.pat), twin(g.t)
		first, second := g.ask(), g.ask()
		if !reflect.DeepEqual(first, second) || !reflect.DeepEqual(first.of, trim(first.of)) || !reflect.DeepEqual(first.names, trim(first.names)) {
			t.Fatalf("%s and then %s was told", short(first), short(second))
		}
		l := ty.Datas(g.p)
		again, _ := check.Binds(l, g.pat, g.t)
		apart(t, g.p.Datas, g.p.Funs, g.p.State, g.p.Init, g.p.Hands, g.env, g.e, g.pat, g.t, l, first.of, second.of, first.names, second.names, again)
		types += len(first.of.Parts)
		names += len(first.names)
	}
	if types < 100 || names < 100 {
		t.Errorf("%d parts of types, %d names were told: too few", types, names)
	}
}

// 0.5: types that are made of one another many times over are apart, too
func TestGreatAnswersShareNothing(t *testing.T) {
	p, env := home(t), []api.Param{param("x", tuple(number(), text()))}
	of, fault := check.TypeOf(p, env, doubled(10, variable("x")))
	want := nested(10, tuple(number(), text()), func(of api.Type) api.Type { return tuple(of, of) })
	if fault != (api.Fault{}) || !reflect.DeepEqual(of, want) {
		t.Fatalf("a type of many parts is told as %s, %v", short(of), fault)
	}
	apart(t, of, env)
	names, _ := check.Binds(nil, rowPat(varPat("x"), varPat("y")), of)
	if len(names) != 2 || !reflect.DeepEqual(names[1].Type, want.Parts[1]) {
		t.Fatalf("of a type of many parts %s is given", short(names))
	}
	apart(t, of, names)
}

// 0.5: what is done with an answer is not to be seen in another
func TestAnswersAreTheirOwn(t *testing.T) {
	p, env := home(t), params(t, "x : (int * (bytes * list))")
	e, of := expr(t, "let y = (x, x) in (y, pair(\"a\", (1, True)))"), "(((int * (bytes * list)) * (int * (bytes * list))) * (bytes * (int * bool)))"
	wasProg, wasEnv := twin(p), twin(env)
	for range 2 {
		got, _ := check.TypeOf(p, env, e)
		if !alike(got, typeOf(t, of)) {
			t.Fatalf("%s is told, want %s", spelled(got), of)
		}
		spoil(got)
		names, _ := check.Binds(p.Datas, rowPat(varPat("x"), varPat("y")), env[0].Type)
		if want := params(t, "x : int, y : (bytes * list)"); spelledAll(names) != spelledAll(want) {
			t.Fatalf("%s is told, want %s", spelledAll(names), spelledAll(want))
		}
		for i := range names {
			names[i].Name = "spoilt"
			spoil(names[i].Type)
		}
	}
	if !reflect.DeepEqual(p, wasProg) || !reflect.DeepEqual(env, wasEnv) {
		t.Errorf("%s was changed to %s", short(wasProg), short(p))
	}
	env[0].Type.Parts[0].Kind = api.TyBytes
	p.Funs[2].Result.Parts[0].Kind = api.TyInt
	if got, _ := check.TypeOf(p, env, e); !alike(got, typeOf(t, strings.ReplaceAll(strings.Replace(of, "* (bytes * (int", "* (int * (int", 1), "(int * (bytes * list", "(bytes * (bytes * list"))) {
		t.Errorf("of a changed program %s is told", spelled(got))
	}
}

func spoil(t api.Type) {
	for i := range t.Parts {
		spoil(t.Parts[i])
		t.Parts[i] = api.Type{Kind: 9}
	}
}

// doubled is a name that is twice itself so many times, and then what is within.
func doubled(count int, within api.Expr) api.Expr {
	return nested(count, within, func(e api.Expr) api.Expr { return let("x", row(variable("x"), variable("x")), e) })
}

// 0.1, P9.2, P9.3: names that are made of one another have types of more parts than there is memory for: what is done with them comes to an end
func TestTypesOfManyParts(t *testing.T) {
	p, x, one := home(t), variable("x"), num(1)
	yes := api.Expr{Kind: api.ExCon, Name: "True"}
	const deep = 58
	other := let("y", doubled(40, x), let("z", doubled(40, x), choice(yes, choice(yes, variable("y"), variable("z")), row(variable("z"), one))))
	for _, c := range []struct {
		e   api.Expr
		err api.Errno
		of  api.Type
	}{
		{doubled(60, one), api.OK, number()},
		{doubled(deep, match(x, arm(rowPat(rowPat(api.Pat{}, varPat("x")), varPat("y")), one))), api.OK, number()},
		{doubled(deep, let("x", choice(yes, x, x), quoted("a"))), api.OK, text()},
		{doubled(deep, let("y", loop(3, "y", x, x), one)), api.OK, number()},
		{let("y", doubled(deep, x), doubled(deep, let("x", choice(yes, variable("x"), variable("y")), one))), api.OK, number()},
		{doubled(deep, match(x, arm(rowPat(varPat("y"), varPat("z")), let("x", choice(yes, variable("y"), variable("z")), one)))), api.OK, number()},
		{doubled(deep, api.Expr{Kind: api.ExCall, Name: "length", Kids: []api.Expr{x}}), api.ErrType, api.Type{}},
		{doubled(deep, choice(yes, x, row(x, x))), api.ErrType, api.Type{}},
		{doubled(deep, loop(3, "y", x, row(x, one))), api.ErrType, api.Type{}},
		{other, api.ErrType, api.Type{}},
	} {
		of, fault := check.TypeOf(p, []api.Param{param("x", number())}, numbered(c.e))
		if fault.Err != c.err || !reflect.DeepEqual(of, c.of) {
			t.Errorf("TypeOf(%s) = %s, %v", short(c.e), short(of), fault)
		}
		with := p
		with.Funs = append(slices.Clone(p.Funs), api.Fun{Name: "it", Params: []api.Param{param("x", number())}, Result: c.of, Body: numbered(c.e)})
		if got := check.Check(with); got.Err != c.err {
			t.Errorf("Check of %s = %v", short(c.e), got)
		}
		with.Funs[len(p.Funs)].Body = doubled(60, x)
		if got := check.Check(with); got.Err != api.ErrType {
			t.Errorf("Check of a Body of another type, of many parts = %v", got)
		}
	}
}

// 0.1: what is more than can be told comes to an end, too
func TestMoreThanCanBeTold(t *testing.T) {
	for width := 2; width <= api.MaxFields; width++ {
		e := nested(62, variable("x"), func(e api.Expr) api.Expr { return let("x", row(slices.Repeat([]api.Expr{variable("x")}, width)...), e) })
		of, fault := check.TypeOf(home(t), []api.Param{param("x", number())}, e)
		for i := range 62 {
			if fault != (api.Fault{}) || of.Kind != api.TyTuple || len(of.Parts) != width {
				t.Fatalf("in a type of too many parts, at the depth %d: %v", i, fault)
			}
			of = of.Parts[i%width]
		}
		if !alike(of, number()) {
			t.Errorf("at the end of a type of too many parts stands %s", short(of))
		}
	}
	wide := tuple(make([]api.Type, many/2)...)
	it := data("it")
	l := []api.Data{typed("it", con("It", wide, it, it, it, it, it))}
	count := 0
	var grow func(levels int) api.Pat
	grow = func(levels int) api.Pat {
		if levels == 0 {
			return api.Pat{}
		}
		count++
		return conPat("It", append([]api.Pat{varPat(named(count))}, some(5, func() api.Pat { return grow(levels - 1) })...)...)
	}
	p := grow(6)
	if names, fault := check.Binds(l, rowPat(p, p), tuple(it, it)); fault.Err != api.ErrTwice || names != nil {
		t.Errorf("Binds of too many parts, a name of which is there twice = %v", fault)
	}
	names, fault := check.Binds(l, p, it)
	if fault != (api.Fault{}) || len(names) != count {
		t.Fatalf("Binds of too many parts = %d names, %v", len(names), fault)
	}
	for _, n := range names {
		if n.Type.Kind != api.TyTuple || len(n.Type.Parts) != many/2 {
			t.Fatalf("of too many parts %s is given", n.Name)
		}
	}
}

// many is how many parts an argument may have.
const many = 1 << 16

// 0.1: types as deep as may be
func TestDeepTypes(t *testing.T) {
	p := home(t)
	for _, kind := range []int{api.TyTuple, api.TyInt, 7} {
		deep := func(count int) api.Type {
			return nested(count, data("list"), func(of api.Type) api.Type { return api.Type{Kind: kind, Parts: []api.Type{of}} })
		}
		of := deep(many)
		env := []api.Param{param("x", of), param("y", deep(many)), param("z", deep(many-1))}
		if got, fault := check.TypeOf(p, env, expr(t, "if True then x else y")); fault != (api.Fault{}) || !ty.Same(got, of) {
			t.Errorf("a deep type of the kind %d is told as another: %v", kind, fault)
		}
		if _, fault := check.TypeOf(p, env, expr(t, "if True then x else z")); fault.Err != api.ErrType {
			t.Errorf("two deep types of the kind %d are the same: %v", kind, fault)
		}
		l := []api.Data{typed("it", con("It", of, of))}
		for _, p := range []api.Pat{varPat("x"), conPat("It", api.Pat{}, varPat("x"))} {
			from := map[int]api.Type{api.PtVar: of, api.PtCon: data("it")}[p.Kind]
			if names, fault := check.Binds(l, p, from); fault != (api.Fault{}) || len(names) != 1 || !ty.Same(names[0].Type, of) {
				t.Errorf("a deep type of the kind %d is given as another: %v", kind, fault)
			}
		}
		p := p
		p.State = of
		if f := check.Check(p); f != (api.Fault{Err: api.ErrForm}) {
			t.Errorf("Check of a deep type of the kind %d = %v", kind, f)
		}
	}
	e := nested(many, num(1), func(e api.Expr) api.Expr { return op(api.OpLen, e) })
	if of, fault := check.TypeOf(p, nil, e); fault != (api.Fault{Err: api.ErrForm}) || !reflect.DeepEqual(of, api.Type{}) {
		t.Errorf("TypeOf of a deep expression = %v", fault)
	}
	deep := nested(many, varPat("x"), func(p api.Pat) api.Pat { return conPat("It", p) })
	if names, fault := check.Binds(nil, deep, number()); fault != (api.Fault{Err: api.ErrForm}) || names != nil {
		t.Errorf("Binds of a deep pattern = %v", fault)
	}
}

// branched is a tree of so many levels, each part of six, and how many leaves it has.
func branched[T any](levels int, leaf func(at int) T, around func(kids ...T) T) (T, int) {
	count := 0
	var grow func(levels int) T
	grow = func(levels int) T {
		if levels == 0 {
			count++
			return leaf(count - 1)
		}
		return around(some(6, func() T { return grow(levels - 1) })...)
	}
	return grow(levels), count
}

func named(at int) string { return fmt.Sprintf("x%06d", at) }

// 0.1: as many names, and parts that ask for them, as may be
func TestManyNames(t *testing.T) {
	kinds := []api.Type{number(), text(), data("list")}
	of := func(at int) api.Type { return kinds[at%3] }
	e, count := branched(6, func(at int) api.Expr { return variable(named(at)) }, row)
	want, _ := branched(6, of, tuple)
	p, _ := branched(6, func(at int) api.Pat { return varPat(named(at)) }, rowPat)
	var env []api.Param
	for i := range count {
		env = append(env, param(named(i), of(i)))
	}
	h := home(t)
	if got, fault := check.TypeOf(h, env, e); fault != (api.Fault{}) || !ty.Same(got, want) {
		t.Errorf("with many names a type is told as another: %v", fault)
	}
	names, fault := check.Binds(nil, p, want)
	if fault != (api.Fault{}) || !reflect.DeepEqual(names, env) {
		t.Errorf("of a great pattern %d names are given, %v", len(names), fault)
	}
	env = append(env, param("it", want))
	if got, fault := check.TypeOf(h, env[count:], match(variable("it"), arm(p, e))); fault != (api.Fault{}) || !ty.Same(got, want) {
		t.Errorf("within a great pattern a type is told as another: %v", fault)
	}
	p, _ = branched(6, func(at int) api.Pat { return varPat(named(at % (count - 1))) }, rowPat)
	p = numbered(p)
	last := p
	for len(last.Kids) > 0 {
		last = last.Kids[5]
	}
	if names, fault := check.Binds(nil, p, want); fault != (api.Fault{Err: api.ErrTwice, At: last.At}) || names != nil {
		t.Errorf("of a great pattern whose last name is its first one %d names are given, %v", len(names), fault)
	}
	if _, fault := check.TypeOf(h, env[1:], numbered(e)); fault.Err != api.ErrName || fault.At.Line != 7 {
		t.Errorf("without the first of many names: %v", fault)
	}
}

// 0.1: as many types and constructors as may be
func TestManyTypes(t *testing.T) {
	var l []api.Data
	var cons []api.Con
	for i := range many / 4 {
		l = append(l, typed(named(i), con("A"+named(i), data(named(i)))))
		cons = append(cons, con("B"+named(i)), con("C"+named(i), number(), data("all")))
	}
	l = append(l, typed("all", cons...), typed("row", con("Row", slices.Repeat([]api.Type{data("all")}, many/8)...)))
	at := func(i int) api.Pat { return conPat("C"+named(i), numPat(1), varPat("x"+named(i))) }
	p, count := branched(5, at, rowPat)
	of, _ := branched(5, func(int) api.Type { return data("all") }, tuple)
	if names, fault := check.Binds(l, p, of); fault != (api.Fault{}) || len(names) != count || names[count-1].Name != "x"+named(count-1) {
		t.Errorf("of many constructors %d names are given, %v", len(names), fault)
	}
	last := named(many/4 - 1)
	if _, fault := check.Binds(l, conPat("A"+last, api.Pat{}), data(last)); fault != (api.Fault{}) {
		t.Errorf("the last of many types: %v", fault)
	}
	if _, fault := check.Binds(l, conPat("Row", api.Pat{}), data("row")); fault.Err != api.ErrCount {
		t.Errorf("a constructor of many fields: %v", fault)
	}
	if f := check.Check(api.Prog{Queue: 1, Datas: l}); f != (api.Fault{Err: api.ErrForm}) {
		t.Errorf("Check of too many types = %v", f)
	}
}

// 0.1, P9.3: as many functions, handlers, arms and parts as may be
func TestGreatPrograms(t *testing.T) {
	sum, _ := branched(4, func(int) api.Expr { return num(1) }, row)
	of, _ := branched(4, func(int) api.Type { return number() }, tuple)
	p := api.Prog{Queue: 1, State: of, Init: sum}
	for i := range api.MaxFuns {
		body := match(variable("x"), some(api.MaxArms, func() api.Arm {
			return arm(varPat("x"), api.Expr{Kind: api.ExCall, Name: named(i / 2), Kids: []api.Expr{variable("x")}})
		})...)
		p.Funs = append(p.Funs, api.Fun{Name: named(i), Params: []api.Param{param("x", of)}, Result: of, Body: body})
	}
	for i := range api.MaxHands {
		p.Hands = append(p.Hands, api.Hand{Name: named(i), Param: param("x", of), Body: row(variable("state"), api.Expr{Kind: api.ExCon, Name: "Done"})})
	}
	p = numbered(p)
	if got := check.Check(p); got != (api.Fault{}) {
		t.Errorf("Check of a great program = %v", got)
	}
	p.Hands[api.MaxHands-1].Name = named(0)
	if got := check.Check(p); got != (api.Fault{Err: api.ErrTwice, At: p.Hands[api.MaxHands-1].At}) {
		t.Errorf("Check of a great program whose last handler is there twice = %v", got)
	}
	last := &p.Funs[api.MaxFuns-1].Body.Arms[api.MaxArms-1]
	last.Body.Kids[0].Name = "y"
	if got := check.Check(p); got != (api.Fault{Err: api.ErrName, At: last.Body.Kids[0].At}) {
		t.Errorf("Check of a great program whose last function's last name is unknown = %v", got)
	}
}

// 0.1: the zero values, and empty lists
func TestNothingGiven(t *testing.T) {
	if got := check.Check(api.Prog{}); got != (api.Fault{Err: api.ErrForm}) {
		t.Errorf("Check of nothing = %v", got)
	}
	if of, got := check.TypeOf(api.Prog{}, nil, api.Expr{}); got != (api.Fault{Err: api.ErrForm}) || !reflect.DeepEqual(of, api.Type{}) {
		t.Errorf("TypeOf of nothing = %v", got)
	}
	if of, got := check.TypeOf(api.Prog{Queue: 1}, nil, api.Expr{}); got != (api.Fault{}) || !reflect.DeepEqual(of, api.Type{}) {
		t.Errorf("TypeOf of 0 = %s, %v", spelled(of), got)
	}
	if names, got := check.Binds(nil, api.Pat{}, api.Type{}); got != (api.Fault{}) || names != nil {
		t.Errorf("Binds of nothing = %s, %v", spelledAll(names), got)
	}
	if names, got := check.Binds([]api.Data{}, varPat("x"), api.Type{Parts: []api.Type{}}); got != (api.Fault{}) || !reflect.DeepEqual(names, []api.Param{{Name: "x"}}) {
		t.Errorf("Binds of a name = %s, %v", spelledAll(names), got)
	}
}
