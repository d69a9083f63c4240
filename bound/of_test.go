package bound_test

import (
	"math"
	"reflect"
	"strconv"
	"strings"
	"testing"

	"handloom/api"
	"handloom/bound"
	"handloom/halt"
)

// holds holds what Of tells against the second reading, and is its fault.
func holds(t *testing.T, p api.Prog) api.Fault {
	t.Helper()
	got, fault := bound.Of(p)
	want := wantOf(p)
	switch {
	case want.grow || want.big:
		if is := fault.Err == api.ErrGrow && want.grow || fault.Err == api.ErrBig && want.big; !is || fault.At != want.fault.At || !reflect.DeepEqual(got, api.Bounds{}) {
			t.Fatalf("Of(%s) = %s, %v, want %+v at %v", short(p), short(got), fault, want.errors, want.fault.At)
		}
	case fault != want.fault || !reflect.DeepEqual(got, want.bounds):
		t.Fatalf("Of(%s) = %s, %v, want %s, %v", short(p), short(got), fault, short(want.bounds), want.fault)
	}
	return fault
}

// P14.2: the chapter's example
func TestExample(t *testing.T) {
	p := prog(t, "type list = Nil | Cons of int * list fun push (l : list, x : int) : list = Cons(x, l)"+start)
	got, fault := bound.Of(p)
	four := api.Poly{{Coef: 4}}
	size := api.Poly{{Coef: 4}, {Coef: 1, Exps: [api.NumVars]uint8{1}}}
	want := []api.Bound{{Size: size, Words: four, Steps: api.Poly{{Coef: 16}}, Peak: api.Poly{{Coef: 5}}}}
	if !reflect.DeepEqual(got.Funs, want) || fault != (api.Fault{}) {
		t.Errorf("%s, %v was told", short(got), fault)
	}
}

// parts is those of a program that may be wrong: each one grows, is too great, or is neither.
func parts(errs []api.Errno) string {
	body := func(err api.Errno) string {
		switch err {
		case api.ErrGrow:
			return "let y = (for 1 with x = Leaf do Node(x, 1, x)) in 1"
		case api.ErrBig:
			return strings.Repeat("for 1 with x = 1 do ", 6) + "x"
		}
		return "1"
	}
	var l []string
	for i, err := range errs[:3] {
		l = append(l, "fun f"+strconv.Itoa(i)+" (n : int) : int = "+body(err))
	}
	l = append(l, "queue 1 state int cap 0 = "+body(errs[3]))
	for i, err := range errs[4:] {
		l = append(l, "on h"+strconv.Itoa(i)+" (n : int cap 0) = ("+body(err)+", Done)")
	}
	return strings.Join(l, "\n")
}

// P14.2: Fun by Fun, then Init, then Hand by Hand: the first one that is wrong is told, at its place
func TestFirstFault(t *testing.T) {
	var places []api.Pos
	for i := range 3 {
		places = append(places, place(i+1, 1))
	}
	places = append(places, place(4, 27), place(5, 1), place(6, 1))
	wrong := []api.Errno{api.ErrGrow, api.ErrBig}
	check := func(errs []api.Errno) {
		p := prog(t, strings.ReplaceAll(house, "\n", " ")+parts(errs))
		want := api.Fault{}
		for at := len(errs) - 1; at >= 0; at-- {
			if errs[at] != api.OK {
				want = api.Fault{Err: errs[at], At: places[at]}
			}
		}
		// house stands in the first function's line
		if want.At == places[0] {
			want.At.Col += len(house)
		}
		if got := holds(t, p); got != want {
			t.Errorf("%v: %v was told, want %v", errs, got, want)
		}
	}
	check(make([]api.Errno, 6))
	for at := range 6 {
		for _, err := range wrong {
			errs := make([]api.Errno, 6)
			errs[at] = err
			check(errs)
			for behind := at + 1; behind < 6; behind++ {
				for _, errs[behind] = range wrong {
					check(errs)
				}
				errs[behind] = api.OK
			}
		}
	}
	check([]api.Errno{api.ErrBig, api.ErrGrow, api.ErrBig, api.ErrGrow, api.ErrBig, api.ErrGrow})
	check([]api.Errno{api.OK, api.OK, api.OK, api.ErrGrow, api.ErrGrow, api.ErrGrow})
}

// P14.2: the place is that of the part, whatever it is; of Init the expression's own
func TestFaultPlaces(t *testing.T) {
	for at := range 6 {
		errs := make([]api.Errno, 6)
		errs[at] = api.ErrGrow
		for _, pos := range []api.Pos{{}, {Line: -3, Col: 1 << 40}, {Line: 7, Col: 7}} {
			p := numbered(prog(t, house+parts(errs)))
			*[]*api.Pos{&p.Funs[0].At, &p.Funs[1].At, &p.Funs[2].At, &p.Init.At, &p.Hands[0].At, &p.Hands[1].At}[at] = pos
			if got, want := holds(t, p), (api.Fault{Err: api.ErrGrow, At: pos}); got != want {
				t.Errorf("the part %d: %v was told, want %v", at, got, want)
			}
		}
	}
	faults(t, house+"queue 1 state int cap 0 = 1 @+ (let y = (for 1 with x = Leaf do Node(x, 1, x)) in 1)", api.ErrGrow)
}

// P14.2: what halt.Check finds is told as it is, ahead of all else, and nothing beside it
func TestFaultsAhead(t *testing.T) {
	const growing = "fun grow (t : tree) : tree = for 1 with x = t do Node(x, 1, x)\n"
	seen := map[api.Errno]int{}
	for _, spoil := range []func(p *api.Prog){
		func(p *api.Prog) { *p = api.Prog{} },
		func(p *api.Prog) { p.Queue = 0 },
		func(p *api.Prog) { p.Timers = 1 },
		func(p *api.Prog) { p.Timers = 33 },
		func(p *api.Prog) { p.Init.Kind = 11 },
		func(p *api.Prog) { p.Init.Num = math.MinInt64 },
		func(p *api.Prog) { p.Funs[0].Body.Kids = nil },
		func(p *api.Prog) { p.Funs[1].Name = "grow" },
		func(p *api.Prog) { p.Init = variable("x") },
		func(p *api.Prog) { p.Init = conOf("True") },
		func(p *api.Prog) { p.Init = call("f", conOf("Nil"), num(1)) },
		func(p *api.Prog) { p.Funs[0].Body = call("f", conOf("Nil")) },
		func(p *api.Prog) { p.Funs[1].Body.Arms = p.Funs[1].Body.Arms[:1] },
		func(p *api.Prog) { p.Funs[1].Body.Arms[0].Pat = anyPat() },
		func(p *api.Prog) { p.Funs[1].Body.Arms[1].Body.Kids[0].Name = "l" },
		func(p *api.Prog) { p.Datas[1].Cons = p.Datas[1].Cons[1:] },
		func(p *api.Prog) { p.Hands[0].Body.Kids[1] = num(1) },
		func(p *api.Prog) { p.State = data("none") },
	} {
		p := numbered(prog(t, house+growing+"fun f (l : list) : int = match l with Nil -> 0 | Cons(x, r) -> f(r) end queue 1 state int cap 0 = 1 on h (n : int cap 0) = (n, Done)"))
		spoil(&p)
		want := halt.Check(p)
		got, fault := bound.Of(p)
		if want.Err == api.OK || fault != want || !reflect.DeepEqual(got, api.Bounds{}) {
			t.Errorf("Of(%s) = %s, %v, want %v", short(p), short(got), fault, want)
		}
		seen[want.Err]++
	}
	for _, err := range []api.Errno{api.ErrForm, api.ErrName, api.ErrType, api.ErrCount, api.ErrTwice, api.ErrOrder, api.ErrEmpty, api.ErrCover, api.ErrSpare, api.ErrLoop, api.ErrMiss} {
		if seen[err] == 0 {
			t.Errorf("no program with the fault %d was asked: %v", err, seen)
		}
	}
}

// doubled is a tree that is made of the one ahead twice, so many times, and what stands in its place.
func doubled(count int, inner string) string {
	return "let t = Leaf in " + strings.Repeat("let t = Node(t, 1, t) in ", count) + inner
}

// P14.2: ErrBig of a number above MaxCoef: in Size, though nothing asks for it; in Words, Steps, Peak; on the way
func TestTooGreat(t *testing.T) {
	// 5 (2^37 - 1), and more than MaxCoef
	last(t, "fun f (n : int) : tree = "+doubled(37, "t"), "687194767355", "37*5", "8+4+37*30+4", "37+7")
	tooBig(t, "@fun f (n : int) : tree = "+doubled(38, "t"))
	tooBig(t, "@fun f (n : int) : int = "+doubled(38, "n"))
	faults(t, house+"queue 1 state int cap 0 = @"+doubled(38, "1"), api.ErrBig)
	faults(t, house+"queue 1 state int cap 0 = 1 @on h (n : int cap 0) = ("+doubled(38, "1")+", Done)", api.ErrBig)
	last(t, "fun f (t : tree) : (int * tree) = "+strings.Repeat("let t = Node(t, 1, t) in ", 37)+"(1, t)", "687194767359 + 137438953472 a", "4+37*5", "37*30+16", "36+7")
	// Steps: loops within loops
	thousands := func(count int) string { return strings.Repeat("for 1000 with n = 1 do ", count) }
	steps := "4"
	for range 3 {
		steps = "8+4+1000*(6+" + steps + ")"
	}
	first(t, "int", thousands(3)+"n", "", "", steps, "9")
	faults(t, "queue 1 state int cap 0 = @"+thousands(4)+"n", api.ErrBig)
	// what a loop does 0 times is reckoned all the same, as chapter 13 says
	last(t, "fun f (n : int) : int = for 0 with n = 1 do "+thousands(3)+"n", "", "", "12", "11")
	tooBig(t, "@fun f (n : int) : int = for 0 with n = 1 do "+thousands(4)+"n")
	const depth = "fun depth (t : tree) : int = match t with Leaf -> 0 | Node(a, _, _) -> 1 + depth(a) end "
	last(t, depth, "", "", "88 + 88 a", "13 + 13 a")
	for _, times := range []string{"0", "1"} {
		tooBig(t, depth+"@fun f (n : int) : tree = "+doubled(37, "for "+times+" with u = t do let n = depth(u) in u"))
	}
	// what is added Num times
	last(t, "fun f (n : int) : tree = "+doubled(27, "for 1000 with u = Leaf do Node(t, 1, u)"), written(sum(strconv.Itoa(1000*(5+5*(1<<27-1))))), "5000+27*5", "8+4+27*30+12+28000", "28+9")
	tooBig(t, "@fun f (n : int) : tree = "+doubled(28, "for 1000 with u = Leaf do Node(t, 1, u)"))
	// the second Kid's Size is not put: it would be twice as great
	last(t, "fun f (n : int) : tree = "+doubled(37, "for 1 with u = Leaf do Node(t, 1, u)"), "687194767360", "5+37*5", "8+4+37*30+12+28", "38+9")
	last(t, "fun f (n : int) : tree = "+doubled(28, "for 0 with u = Leaf do Node(t, 1, u)"), "", "28*5", "8+4+28*30+12", "29+9")
	// what is put by a call, also if nothing asks for it
	last(t, "fun g (t : tree) : tree = Node(t, 1, t) fun f (n : int) : tree = "+doubled(36, "g(t)"), "687194767355", "37*5", "8+4+36*30+10+22", "37+9")
	tooBig(t, "fun g (t : tree) : tree = Node(t, 1, t) @fun f (n : int) : int = "+doubled(37, "let u = g(t) in n"))
	tooBig(t, depth+"@fun f (n : int) : int = "+doubled(37, "depth(t)"))
}

// P14.2: programs that look like chance
func TestOfMany(t *testing.T) {
	s := sower(88172645463325252)
	m := newMaker(t, &s)
	seen := map[api.Errno]int{}
	rich := 0
	for i := range 1000 {
		m.wild = []int{1, 2, 6, 20}[i%4]
		p := numbered(m.prog())
		if f := halt.Check(p); f != (api.Fault{}) {
			t.Fatalf("%s has the fault %v", short(p), f)
		}
		seen[holds(t, p).Err]++
		b, _ := bound.Of(p)
		for _, f := range b.Funs {
			if len(f.Size)+len(f.Steps) > 5 {
				rich++
			}
		}
	}
	if seen[api.OK] < 700 || seen[api.ErrGrow] < 80 || rich < 200 {
		t.Errorf("%v were told, %d of many terms: too few", seen, rich)
	}
}

// P14.2: each field of a program by itself
func TestOfByOneField(t *testing.T) {
	p := numbered(prog(t, `type list = Nil | Cons of list * list
fun g (x : int, y : list) : list = Cons(y, Nil)
fun f (l : list, m : list) : list = match l with Nil -> g(1, m) | Cons(x, r) -> let n = len("ab") in if 1 < n then f(r, Cons(x, m)) else for 2 with y = f(r, m) do Cons(m, y) end
queue 1 state list cap 9 = f(Cons(Nil, Nil), Nil)
on add (n : int cap 0) = (f(state, Cons(state, Nil)), Say(n, Done))`))
	if got := holds(t, p); got != (api.Fault{}) {
		t.Fatalf("Of = %v", got)
	}
	seen := map[api.Errno]int{}
	changes(p, func(c api.Prog) { seen[holds(t, c).Err]++ })
	for _, err := range []api.Errno{api.OK, api.ErrForm, api.ErrName, api.ErrType, api.ErrCount, api.ErrCover, api.ErrSpare, api.ErrLoop, api.ErrGrow} {
		if seen[err] == 0 {
			t.Errorf("no program had the fault %d: %v", err, seen)
		}
	}
	if seen[api.OK] < 200 {
		t.Errorf("%v: too few are right", seen)
	}
}

// P14.2, 0.1: whatever is given, also what is not fit
func TestOfAny(t *testing.T) {
	s := sower(314159265)
	for range 5000 {
		holds(t, s.anyProg())
	}
	for _, p := range []api.Prog{{}, {Datas: []api.Data{}, Funs: []api.Fun{}, Hands: []api.Hand{}}} {
		if got := holds(t, p); got != (api.Fault{Err: api.ErrForm}) {
			t.Errorf("%v was told", got)
		}
	}
	for _, p := range []api.Prog{{Queue: 1}, {Queue: 1, Datas: []api.Data{}, Funs: []api.Fun{}, Hands: []api.Hand{}}} {
		holds(t, p)
		got, fault := bound.Of(p)
		if want := (api.Bounds{Init: bounds("", "", "4", "1")}); !reflect.DeepEqual(got, want) || fault != (api.Fault{}) {
			t.Errorf("%s, %v was told", short(got), fault)
		}
	}
}
