package halt_test

import (
	"reflect"
	"strconv"
	"sync"
	"testing"

	"handloom/api"
	"handloom/halt"
)

// given is what the three calls may be given.
type given struct {
	p    api.Prog
	f    api.Fun
	e    api.Expr
	name string
}

// all are such of all sorts, right ones and others, with empty lists, too.
func all(t *testing.T) []given {
	s := sower(521288629)
	m := newMaker(t, &s)
	m.slip = 20
	empty := api.Expr{Kind: api.ExMatch, Bytes: []byte{}, Kids: []api.Expr{}, Arms: []api.Arm{{Pat: api.Pat{Kids: []api.Pat{}}}}}
	l := []given{{}, {p: api.Prog{Datas: []api.Data{}, Funs: []api.Fun{{Params: []api.Param{}, Body: empty}}, Hands: []api.Hand{}}, f: api.Fun{Params: []api.Param{}, Body: empty}, e: empty}}
	for range 200 {
		p := m.prog()
		f := p.Funs[s.below(len(p.Funs))]
		l = append(l, given{numbered(p), f, f.Body, f.Name}, given{api.Prog{Queue: 1, Funs: some(3, s.anyFun)}, s.anyFun(), s.anyExpr(4), s.aName()}, given{api.Prog{}, s.goingFun(), s.goingFun().Body, "f"})
	}
	return l
}

// told is what the three calls tell.
type told struct {
	fault    api.Fault
	k        int
	ok       bool
	all, way int
}

func (g given) ask() told {
	a := told{fault: halt.Check(g.p)}
	a.k, a.ok = halt.Down(g.f)
	a.all, a.way = halt.Calls(g.e, g.name)
	return a
}

// 0.5: what is given is not changed, nor what lies behind it
func TestNothingIsChanged(t *testing.T) {
	for _, g := range all(t) {
		g.p.Funs = append(make([]api.Fun, 0, len(g.p.Funs)+3), g.p.Funs...)
		g.f.Params = append(make([]api.Param, 0, len(g.f.Params)+3), g.f.Params...)
		g.e.Kids = append(make([]api.Expr, 0, len(g.e.Kids)+3), g.e.Kids...)
		funs, params, kids := g.p.Funs[:cap(g.p.Funs)], g.f.Params[:cap(g.f.Params)], g.e.Kids[:cap(g.e.Kids)]
		was := given{twin(g.p), twin(g.f), twin(g.e), g.name}
		wasFuns, wasParams, wasKids := twin(funs), twin(params), twin(kids)
		g.ask()
		if !reflect.DeepEqual(g, was) || !reflect.DeepEqual(funs, wasFuns) || !reflect.DeepEqual(params, wasParams) || !reflect.DeepEqual(kids, wasKids) {
			t.Fatalf("%s was changed to %s", short(was), short(g))
		}
	}
}

// 0.5: what is told hangs on what is given alone: the same is told again, in any order, and of several calls at a time
func TestTheSameIsTold(t *testing.T) {
	l := all(t)
	var first []told
	for _, g := range l {
		first = append(first, g.ask())
	}
	for at := len(l) - 1; at >= 0; at-- {
		if got := l[at].ask(); got != first[at] {
			t.Fatalf("of %s %+v and then %+v was told", short(l[at]), first[at], got)
		}
	}
	again := make([]told, len(l))
	var all sync.WaitGroup
	for at := range l {
		all.Go(func() { again[at] = l[at].ask() })
	}
	all.Wait()
	if !reflect.DeepEqual(again, first) {
		t.Error("at a time something else was told")
	}
	// what is done with what was given is not to be seen in what was told
	g := given{f: funOf(t, "fun f (l : list) : int = match l with Cons(_, r) -> f(r) end")}
	was := g.ask()
	g.f.Body.Arms[0].Body.Kids[0].Name = "l"
	if k, ok := halt.Down(g.f); k != -1 || ok || was.k != 0 || !was.ok {
		t.Errorf("%+v was told, then %d, %v", was, k, ok)
	}
}

// many is how many parts an argument may have.
const many = 1 << 16

// 0.1, P11.1: expressions as deep as may be
func TestCallsDeep(t *testing.T) {
	f, one := call("f"), num(1)
	for _, c := range []struct {
		count    int
		wrap     func(e api.Expr) api.Expr
		all, way int
	}{
		{many - 1, func(e api.Expr) api.Expr { return row(e) }, 1, 1},
		{many - 1, func(e api.Expr) api.Expr { return call("f", e) }, many, many},
		{many - 1, func(e api.Expr) api.Expr { return choose(e) }, 1, 1},
		{many/3 - 1, func(e api.Expr) api.Expr { return choose(f, e, f) }, 2*(many/3) - 1, many / 3},
		{many/3 - 1, func(e api.Expr) api.Expr { return choose(one, f, e) }, many / 3, 1},
		{many/3 - 1, func(e api.Expr) api.Expr { return match(one, arm(anyPat(), e)) }, 1, 1},
		{many/5 - 1, func(e api.Expr) api.Expr { return match(f, arm(anyPat(), f), arm(anyPat(), e)) }, 2*(many/5) - 1, many / 5},
		{many/3 - 1, func(e api.Expr) api.Expr { return match(e, arm(anyPat(), f)) }, many / 3, many / 3},
		{many/2 - 1, func(e api.Expr) api.Expr { return let("f", f, e) }, many / 2, many / 2},
		{many/2 - 1, func(e api.Expr) api.Expr { return loop(1000, "f", e, f) }, many / 2, many / 2},
	} {
		e := nested(c.count, f, c.wrap)
		if all, way := halt.Calls(e, "f"); all != c.all || way != c.way {
			t.Errorf("Calls(%s) = %d, %d, want %d, %d", short(c.wrap(one)), all, way, c.all, c.way)
		}
	}
}

// 0.1, P11.1: expressions as wide as may be, of long names
func TestCallsWide(t *testing.T) {
	name := string(make([]byte, many))
	kids := make([]api.Expr, many)
	arms := make([]api.Arm, many/2)
	for i := range kids {
		kids[i] = call(name[:many-i%2])
	}
	for i := range arms {
		arms[i].Body = call(name)
	}
	for _, c := range []struct {
		e        api.Expr
		all, way int
	}{{row(kids...), many / 2, many / 2}, {choose(kids...), many / 2, 2}, {match(num(1), arms...), many / 2, 1}, {api.Expr{Arms: arms}, many / 2, 0}} {
		if all, way := halt.Calls(c.e, name); all != c.all || way != c.way {
			t.Errorf("Calls of %d parts = %d, %d, want %d, %d", many, all, way, c.all, c.way)
		}
	}
}

// chain is so many matches in one another, each of the name that the one around it gives, and within all of them a call of the last one.
func chain(count int, name func(i int) string, pat func(name string) api.Pat) api.Fun {
	e := call("f", variable(name(count)))
	for i := count - 1; i >= 0; i-- {
		e = match(variable(name(i)), arm(pat(name(i+1)), e))
	}
	return fun(lists(name(0)), e)
}

// 0.1, P11.2: functions as deep as may be: each scope gives a name of its own, or all the same one
func TestDownDeep(t *testing.T) {
	numbers := func(i int) string { return "x" + strconv.Itoa(i) }
	same := func(int) string { return "x" }
	part := func(name string) api.Pat { return conPat("A", varPat(name)) }
	for _, name := range []func(i int) string{numbers, same} {
		f := chain(many/5, name, part)
		expectDown(t, f, 0, true)
		f.Body.Kids[0].Name = "y"
		expectDown(t, f, -1, false)
		f = chain(many/5, name, varPat)
		expectDown(t, f, -1, false)
	}
	lesser := func(e api.Expr) api.Fun {
		return fun(lists("l"), match(variable("l"), arm(part("r"), e)))
	}
	again := call("f", variable("r"))
	expectDown(t, lesser(nested(many/3, again, func(e api.Expr) api.Expr { return let("x", num(1), e) })), 0, true)
	expectDown(t, lesser(nested(many/3, again, func(e api.Expr) api.Expr { return let("r", num(1), e) })), -1, false)
	expectDown(t, lesser(nested(many/3, again, func(e api.Expr) api.Expr { return let("r", e, variable("r")) })), 0, true)
	expectDown(t, lesser(nested(many/3, again, func(e api.Expr) api.Expr { return loop(1, "r", e, num(1)) })), 0, true)
	expectDown(t, lesser(nested(many/3, again, func(e api.Expr) api.Expr { return loop(1, "x", num(1), e) })), -1, false)
	expectDown(t, lesser(nested(many/3, again, func(e api.Expr) api.Expr { return match(num(1), arm(anyPat(), e)) })), 0, true)
	expectDown(t, lesser(nested(many-9, again, func(e api.Expr) api.Expr { return row(e) })), 0, true)
	expectDown(t, lesser(nested(many-9, again, func(e api.Expr) api.Expr { return call("f", e) })), -1, false)
	count := 0
	expectDown(t, lesser(nested(many/3, again, func(e api.Expr) api.Expr {
		count++
		return let(numbers(count), num(1), e)
	})), 0, true)
	expectDown(t, fun(lists("l"), match(variable("l"), arm(nested(many-9, varPat("r"), func(p api.Pat) api.Pat { return rowPat(p) }), again))), 0, true)
}

// expectDown is for functions that are too great for the second reading.
func expectDown(t *testing.T, f api.Fun, want int, wantOk bool) {
	t.Helper()
	if k, ok := halt.Down(f); k != want || ok != wantOk {
		t.Errorf("Down = %d, %v, want %d, %v", k, ok, want, wantOk)
	}
}

// 0.1, P11.2: functions as wide as may be: of many parameters, names, arms and calls at once
func TestDownWide(t *testing.T) {
	const each = many / 4
	var names []string
	var vars []api.Pat
	var kids, lets []api.Expr
	var arms []api.Arm
	for i := range each {
		name := "x" + strconv.Itoa(i)
		names, vars = append(names, name), append(vars, varPat(name))
		kids, lets = append(kids, variable("r")), append(lets, let(name, num(1), variable(name)))
		arms = append(arms, arm(anyPat(), call("f", variable("r"))))
	}
	lesser := conPat("A", varPat("r"))
	// many parameters, and as many Kids
	expectDown(t, fun(lists(names...), match(variable(names[each-1]), arm(lesser, call("f", kids...)))), each-1, true)
	expectDown(t, fun(lists(names...), match(variable(names[each-1]), arm(lesser, call("f", kids[1:]...)))), -1, false)
	// many parameters, and many calls
	expectDown(t, fun(lists(names...), match(variable(names[0]), arm(lesser, match(num(1), arms...)))), 0, true)
	expectDown(t, fun(lists(names...), match(variable(names[1]), arm(lesser, match(num(1), arms...)))), -1, false)
	// many names that are lesser, and many scopes that give some of them anew
	last := call("f", variable(names[each-1]))
	expectDown(t, fun(lists("l"), match(variable("l"), arm(conPat("A", vars...), row(row(lets...), last)))), 0, true)
	expectDown(t, fun(lists("l"), match(variable("l"), arm(conPat("A", vars...), row(row(lets...), let(names[each-1], num(1), last))))), -1, false)
	expectDown(t, fun(lists("l"), match(variable("l"), arm(conPat("A", vars...), match(num(1), arm(rowPat(vars...), last))))), -1, false)
	expectDown(t, fun(lists("l"), match(variable("l"), arm(conPat("A", vars...), row(match(num(1), arm(rowPat(vars...), num(1))), last)))), 0, true)
	// many arms
	arms[each-1].Body.Kids[0].Name = "l"
	expectDown(t, fun(lists("l"), match(variable("l"), arm(lesser, match(num(1), arms[:each-1]...)))), 0, true)
	expectDown(t, fun(lists("l"), match(variable("l"), arm(lesser, match(num(1), arms...)))), -1, false)
}

// 0.1, P11.3: programs that are too great, and as great as may be
func TestCheckGreat(t *testing.T) {
	deep := nested(many-9, num(1), func(e api.Expr) api.Expr { return row(e) })
	for _, p := range []api.Prog{{Queue: 1, Init: deep}, {Queue: 1, Funs: make([]api.Fun, many)}, {Queue: 1, Funs: []api.Fun{fun(lists("l"), deep)}}} {
		if got := halt.Check(p); got != (api.Fault{Err: api.ErrForm}) {
			t.Errorf("Check of what is too great = %v", got)
		}
	}
	p := prog(t, house+start)
	for i := range api.MaxFuns {
		name := "f" + strconv.Itoa(i)
		var params []api.Param
		var args []api.Expr
		for k := range api.MaxParams {
			params = append(params, param("p"+strconv.Itoa(k), data("list")))
			args = append(args, variable("p"+strconv.Itoa(k)))
		}
		args[5] = variable("r")
		// as deep as may be: the match, the lets, the call, its Kids
		body := nested(61, call(name, args...), func(e api.Expr) api.Expr { return let("x", num(1), e) })
		body = match(variable("p5"), arm(conPat("Cons", anyPat(), varPat("r")), body), arm(conPat("Nil"), num(1)))
		p.Funs = append(p.Funs, api.Fun{Name: name, Params: params, Result: number(), Body: body})
	}
	p = numbered(p)
	if got := halt.Check(p); got != (api.Fault{}) {
		t.Errorf("Check of a great program = %v", got)
	}
	last := &p.Funs[api.MaxFuns-1]
	last.Body.Arms[1].Body = call(last.Name, variable("p0"), variable("p1"), variable("p2"), variable("p3"), variable("p4"), variable("p5"))
	if got := halt.Check(p); got != (api.Fault{Err: api.ErrLoop, At: last.At}) {
		t.Errorf("Check of a great program whose last function does not go down = %v", got)
	}
}

// 0.1: the zero values, and empty lists
func TestNothingGiven(t *testing.T) {
	if got := halt.Check(api.Prog{}); got != (api.Fault{Err: api.ErrForm}) {
		t.Errorf("Check of nothing = %v", got)
	}
	if got := halt.Check(api.Prog{Queue: 1, Datas: []api.Data{}, Funs: []api.Fun{}, Hands: []api.Hand{}}); got != (api.Fault{}) {
		t.Errorf("Check of a program of nothing = %v", got)
	}
	for _, e := range []api.Expr{{}, {Bytes: []byte{}, Kids: []api.Expr{}, Arms: []api.Arm{}}, {Kind: api.ExIf}, {Kind: api.ExMatch}, {Kind: api.ExLet}, {Kind: api.ExFor}} {
		if all, way := halt.Calls(e, ""); all != 0 || way != 0 {
			t.Errorf("Calls of nothing = %d, %d", all, way)
		}
		expectDown(t, api.Fun{Body: e}, -1, true)
		expectDown(t, api.Fun{Params: []api.Param{}, Body: e}, -1, true)
	}
	if all, way := halt.Calls(api.Expr{Kind: api.ExCall}, ""); all != 1 || way != 1 {
		t.Errorf("Calls of a call of nothing = %d, %d", all, way)
	}
}
