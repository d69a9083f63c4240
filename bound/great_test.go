package bound_test

import (
	"reflect"
	"strconv"
	"testing"

	"handloom/api"
	"handloom/bound"
	"handloom/halt"
)

// expectOf is for programs that are too great for the second reading.
func expectOf(t *testing.T, what string, p api.Prog, want api.Fault) api.Bounds {
	t.Helper()
	if f := halt.Check(p); f != (api.Fault{}) && f != want {
		t.Fatalf("%s: it has the fault %v", what, f)
	}
	got, fault := bound.Of(p)
	if fault != want || want != (api.Fault{}) && !reflect.DeepEqual(got, api.Bounds{}) {
		t.Errorf("%s: %s, %v was told, want %v", what, short(got), fault, want)
	}
	return got
}

// pairs is an expression behind so many names, each a tuple of the one ahead twice: the last one's type has far more parts than there is room for.
func pairs(count int, inner api.Expr) api.Expr {
	for i := count; i > 0; i-- {
		ahead := variable("x" + strconv.Itoa(i-1))
		inner = let("x"+strconv.Itoa(i), row(ahead, ahead), inner)
	}
	return let("x0", num(1), inner)
}

// 0.1, P14.2: types that are made of one another many times over
func TestGreatTypes(t *testing.T) {
	p := api.Prog{Queue: 1, Init: pairs(38, num(7))}
	p.Init.At = place(3, 3)
	// 4 (2^38 - 1) words
	got := expectOf(t, "38 tuples", p, api.Fault{})
	wants(t, "38 tuples", got.Init, bounds("", "38*4", "8+4+38*24+4", "38+5"))
	// a part of such a type, in a tuple that has just MaxCoef words, and in one more
	ask := func(told api.Expr) {
		part := match(variable("a"), arm(rowPat(rowPat(anyPat(), varPat("b")), varPat("c")), told))
		all := pairs(38, match(variable("x38"), arm(rowPat(varPat("a"), anyPat()), part)))
		p.Init = match(all, arm(rowPat(anyPat(), varPat("n")), variable("n")))
	}
	ask(row(variable("b"), num(1)))
	got = expectOf(t, "a match of 38 tuples", p, api.Fault{})
	wants(t, "a match of 38 tuples", got.Init, bounds("", "39*4", "38+8+4+38*24+38+4+54+4+16+4", "39+4+13"))
	ask(row(row(variable("b"), num(1)), num(1)))
	expectOf(t, "a match of 38 tuples, and one more", p, api.Fault{Err: api.ErrBig})
	for _, count := range []int{39, 40, 61} {
		p.Init = pairs(count, num(7))
		p.Init.At = place(5, 5)
		expectOf(t, strconv.Itoa(count)+" tuples", p, api.Fault{Err: api.ErrBig, At: place(5, 5)})
	}
}

// 0.1, P14.2: as many functions as there may be, each calling all of those ahead
func TestManyFunctions(t *testing.T) {
	p := api.Prog{Queue: 1}
	steps := 0
	for i := range api.MaxFuns {
		f := api.Fun{Name: "f" + strconv.Itoa(i), Body: num(1)}
		if i > 0 {
			args := []api.Expr{num(1), num(2), num(3), num(4), num(5), num(6)}
			f.Body = op(api.OpAdd, call("f"+strconv.Itoa(i-1), args...), call("f"+strconv.Itoa(i/2), args...))
		}
		for k := range api.MaxParams {
			f.Params = append(f.Params, param("p"+strconv.Itoa(k), number()))
		}
		p.Funs = append(p.Funs, f)
	}
	got := expectOf(t, "48 functions", p, api.Fault{})
	for i, b := range got.Funs {
		if i == 0 {
			steps = 4
		} else {
			steps = int(got.Funs[i-1].Steps[0].Coef+got.Funs[i/2].Steps[0].Coef) + 8 + 2*(16+6*4)
		}
		if len(b.Steps) != 1 || b.Steps[0].Coef != int64(steps) {
			t.Errorf("the function %d has %s steps, want %d", i, written(b.Steps), steps)
		}
	}
	// of twice as many steps each there are soon too many
	for i := range p.Funs {
		p.Funs[i].At = place(i, 1)
		if i > 0 {
			p.Funs[i].Body.Kids[1] = p.Funs[i].Body.Kids[0]
		}
	}
	// 2^i (4 + 88) - 88 steps
	expectOf(t, "48 functions that call twice", p, api.Fault{Err: api.ErrBig, At: place(34, 1)})
	p.Funs = p.Funs[:34]
	got = expectOf(t, "34 functions that call twice", p, api.Fault{})
	wants(t, "the last one", got.Funs[33], bounds("", "", strconv.Itoa(92<<33-88), strconv.Itoa(33*13+1)))
}

// 0.1, P14.2: expressions as wide as may be, and as deep
func TestWideAndDeep(t *testing.T) {
	wide := num(1)
	for range 6 {
		wide = row(wide, wide, wide, wide, wide, wide)
	}
	p := api.Prog{Queue: 1, Init: match(wide, arm(anyPat(), num(1)))}
	got := expectOf(t, "6 tuples of 6", p, api.Fault{})
	// 1 + 6 + 36 + .. tuples
	const tuples, parts = 9331, 46656
	wants(t, "6 tuples of 6", got.Init, bounds("", strconv.Itoa(8*tuples), strconv.Itoa(16*tuples+4*parts+22+4), strconv.Itoa(13+5*5)))
	p.Init = nested(63, num(1), func(e api.Expr) api.Expr { return op(api.OpAdd, num(1), e) })
	wants(t, "63 sums", expectOf(t, "63 sums", p, api.Fault{}).Init, bounds("", "", strconv.Itoa(63*12+4), "67"))
	p.Init = nested(63, num(1), func(e api.Expr) api.Expr { return let("x", e, variable("x")) })
	wants(t, "63 lets", expectOf(t, "63 lets", p, api.Fault{}).Init, bounds("", "", strconv.Itoa(63*12+4), "5"))
	p.Init = nested(63, num(1), func(e api.Expr) api.Expr { return loop(1, "x", e, variable("x")) })
	wants(t, "63 loops", expectOf(t, "63 loops", p, api.Fault{}).Init, bounds("", "", strconv.Itoa(63*18+4), "5"))
	p.Init = nested(64, num(1), func(e api.Expr) api.Expr { return let("x", e, variable("x")) })
	expectOf(t, "64 lets", p, api.Fault{Err: api.ErrForm})
}

// 0.1, P14.2: matches of as many patterns as there may be, and names
func TestManyPatterns(t *testing.T) {
	// 63 patterns, as 21 arms have 3 each
	var arms []api.Arm
	for i := range 20 {
		arms = append(arms, arm(rowPat(numPat(int64(i)), anyPat()), num(1)))
	}
	body := op(api.OpAdd, variable("first"), variable("a"))
	for range 60 {
		body = match(row(num(100), num(7)), append(arms[:20:20], arm(rowPat(varPat("a"), varPat("b")), body))...)
	}
	p := api.Prog{Queue: 1, Init: let("first", num(5), body)}
	got := expectOf(t, "60 matches", p, api.Fault{})
	wants(t, "60 matches", got.Init, bounds("", "60*4", "8+4+60*694+16", strconv.Itoa(1+59*64+2*63+3)))
}

// 0.1, P14.2: sums of as many terms as there may be, in calls and loops one in another
func TestManyTerms(t *testing.T) {
	src := tower("xxxyyyzzz")
	p := prog(t, house+src+start)
	args := []api.Expr{variable("x"), variable("y"), variable("z"), variable("v")}
	body := call("f9", args...)
	for range 40 {
		body = choose(op(api.OpLt, call("f9", args...), num(1)), call("f9", args...), body)
	}
	params := p.Funs[9].Params
	for i := range 30 {
		p.Funs = append(p.Funs, api.Fun{Name: "g" + strconv.Itoa(i), Params: params, Body: nested(5, body, func(e api.Expr) api.Expr { return loop(2, "n", num(1), e) })})
	}
	got := expectOf(t, "sums of 64 terms", p, api.Fault{})
	if n := len(got.Funs[10].Steps); n != api.MaxTerms || !reflect.DeepEqual(got.Funs[10], got.Funs[39]) {
		t.Errorf("%d terms were told", n)
	}
}

// 0.1: what is too great to be a program
func TestTooGreatToBe(t *testing.T) {
	const many = 1 << 16
	deepest := nested(many-9, num(1), func(e api.Expr) api.Expr { return row(e) })
	for _, p := range []api.Prog{{Queue: 1, Init: deepest}, {Queue: 1, Funs: make([]api.Fun, many)}, {Queue: 1, Hands: make([]api.Hand, many)}, {Queue: 1, Init: row(make([]api.Expr, many)...)}, {Queue: 1, Datas: make([]api.Data, many)}} {
		expectOf(t, "too great a program", p, api.Fault{Err: api.ErrForm})
	}
	long := string(make([]byte, many))
	l := make([]api.Data, many)
	for i := range l {
		l[i].Name = long[:i]
	}
	l[many-1].Cons = make([]api.Con, many)
	expectFlat(t, l, data(long[:many-1]), true)
	l[many-1].Cons[many-1].Fields = make([]api.Type, 1)
	expectFlat(t, l, data(long[:many-1]), false)
	expectFlat(t, l, data(long), false)
	expectFlat(t, l, nested(many, number(), func(of api.Type) api.Type { return tuple(of) }), false)
}
