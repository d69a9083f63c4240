package check_test

import (
	"slices"
	"strings"
	"testing"

	"handloom/api"
	"handloom/check"
	"handloom/ty"
)

// checks holds what Check tells against the second reading, and is it.
func checks(t *testing.T, p api.Prog) api.Fault {
	t.Helper()
	got, want := check.Check(p), wantCheck(p)
	if got != want {
		t.Fatalf("Check(%s) = %v, want %v", short(p), got, want)
	}
	return got
}

// wrong wants a text to have a fault where @ stands in it; without @ it is to have none.
func wrong(t *testing.T, src string, err api.Errno) {
	t.Helper()
	want := api.Fault{Err: err}
	ahead, behind, ok := strings.Cut(src, "@")
	if ok {
		want.At = place(1+strings.Count(ahead, "\n"), len(ahead)-strings.LastIndex(ahead, "\n"))
	}
	if got := checks(t, prog(t, ahead+behind)); got != want {
		t.Errorf("Check of %q = %v, want %v", src, got, want)
	}
}

func right(t *testing.T, src string) {
	t.Helper()
	wrong(t, src, api.OK)
}

const (
	start = "queue 1 state int cap 0 = 0\n"
	list  = "type list = Nil | Cons of int * list\n"
)

// P9.3: programs with which nothing is wrong
func TestCheckOfRight(t *testing.T) {
	right(t, start)
	right(t, house+rest)
	right(t, "queue 2 timers 1 state int cap 0 = 0 on add (n : int cap 0) = (state + n, Say(state + n, Done)) on wait (n : int cap 0) = (state, Arm(n, state, Done)) on alarm (k : int cap 0) = (state, Say(k, Done))")
	right(t, list+"queue 1 state list cap 8 = Cons(1, Nil) on add (n : int cap 0) = (Cons(n, state), Done) on set (l : list cap 8) = (l, Tell(\"set\", Done))")
	right(t, "fun f (x : int) : int = x fun g (x : int, f : bytes) : int = f(g(x, f)) + f(len(f)) "+start)
	right(t, "fun f (f : int) : int = f(f) "+start+"on f (f : int cap 0) = (f(f), Done)")
	right(t, "fun f (x : int) : int = x queue 1 state (int * bytes) cap 9 = (f(1), \"a\") on a (n : int cap 0) = match state with (x, b) -> ((x + n, b), Done) end")
	right(t, "queue 1 timers 32 state act cap 9 = Done on alarm (state_ : int cap 0) = (Say(state_, state), state)")
	right(t, start+"on alarm (k : int cap 0) = (k, Done)")
	right(t, list+"fun alarm (alarm : list) : list = alarm "+start+"on alarm (alarm : int cap 0) = (alarm, Done)")
	right(t, "type f = F fun f (f : f) : f = f(f) queue 1 state f cap 0 = f(F) on f (f : f cap 0) = (f(f), Done) on state_ (f : f cap 0) = (state, Done)")
}

// P9.3: ty.Check's faults come ahead of all others
func TestCheckTypes(t *testing.T) {
	const more = " fun f (x : none, x : int) : no = y queue 1 timers 1 state nothing cap 0 = z on a (n : int cap 0) = 0"
	wrong(t, "@type t = A of t"+more, api.ErrEmpty)
	wrong(t, "@type t = A of u"+more, api.ErrName)
	wrong(t, "type t = A\n@type u = A"+more, api.ErrTwice)
	wrong(t, "type t = A\n@type t = B"+more, api.ErrTwice)
	wrong(t, "@type bool = B"+more, api.ErrTwice)
	wrong(t, "type t = A of t\n@type u = Done"+more, api.ErrTwice)
}

// P9.3: what is not fit
func TestCheckForm(t *testing.T) {
	for _, spoil := range []func(p *api.Prog){
		func(p *api.Prog) { *p = api.Prog{} },
		func(p *api.Prog) { p.Queue = 0 },
		func(p *api.Prog) { p.Timers = 33 },
		func(p *api.Prog) { p.Cap = -1 },
		func(p *api.Prog) { p.State.Name = "int" },
		func(p *api.Prog) { p.Init.Kind = 12 },
		func(p *api.Prog) { p.Datas = append(p.Datas, api.Data{}) },
		func(p *api.Prog) { p.Funs = append(p.Funs, api.Fun{}) },
		func(p *api.Prog) { p.Funs[1].Result.Kind = 4 },
		func(p *api.Prog) { p.Funs[0].Params[0].Name = "state" },
		func(p *api.Prog) { p.Funs[0].Body = row() },
		func(p *api.Prog) { p.Hands = make([]api.Hand, 1) },
		func(p *api.Prog) { p.Funs = slices.Repeat(p.Funs, 9) },
		func(p *api.Prog) {
			p.Hands = []api.Hand{{Name: "a", Param: param("state", number()), Body: row(variable("state"), num(1))}}
		},
	} {
		p := home(t)
		spoil(&p)
		if got := checks(t, p); got != (api.Fault{Err: api.ErrForm}) {
			t.Errorf("Check(%s) = %v, want a fault of its form", short(p), got)
		}
	}
}

// P9.3: names that a function ahead, or a parameter, has
func TestCheckFunTwice(t *testing.T) {
	wrong(t, "fun f (x : int) : int = x @fun f (x : int) : int = x "+start, api.ErrTwice)
	wrong(t, "fun f (x : int) : int = x fun g (x : int) : int = x @fun f (y : bytes) : int = 1 fun g (x : int) : int = x "+start, api.ErrTwice)
	wrong(t, "@fun f (x : int, x : int) : int = x "+start, api.ErrTwice)
	wrong(t, "@fun f (x : int, y : int, x : bytes) : int = y "+start, api.ErrTwice)
	wrong(t, "@fun f (a : int, b : int, c : int, d : int, e : int, e : int) : int = a "+start, api.ErrTwice)
	wrong(t, "fun f (x : int) : int = x @fun g (x : int, y : int, y : int) : int = x "+start, api.ErrTwice)
	right(t, "fun f (x : int, f : int) : int = x fun g (x : int, f : int) : int = x "+start)
}

// P9.3: types of parameters and results that are not known
func TestCheckFunName(t *testing.T) {
	wrong(t, "@fun f (x : none) : int = 1 "+start, api.ErrName)
	wrong(t, "@fun f (x : int, y : none) : int = 1 "+start, api.ErrName)
	wrong(t, "@fun f (x : int, y : (int * (bytes * none))) : int = 1 "+start, api.ErrName)
	wrong(t, "@fun f (x : int) : none = 1 "+start, api.ErrName)
	wrong(t, "@fun f (x : int) : (int * none) = 1 "+start, api.ErrName)
	wrong(t, "@fun f (x : f) : int = 1 "+start, api.ErrName)
	wrong(t, "fun f (x : bool) : act = Done\n @fun g (x : lists) : int = 1 "+start, api.ErrName)
	wrong(t, list+"fun f (x : list) : list = x\n@fun g (x : list) : lists = x "+start, api.ErrName)
}

// P9.3: bodies of functions, which know their parameters, and call functions up to themselves
func TestCheckFunBody(t *testing.T) {
	wrong(t, "fun f (x : int) : int = @y "+start, api.ErrName)
	wrong(t, "fun f (x : int) : int = x + @state "+start, api.ErrName)
	wrong(t, "fun f (x : int) : int = x fun g (y : int) : int = @x "+start, api.ErrName)
	wrong(t, "fun f (x : bytes) : int = 1 + @x "+start, api.ErrType)
	wrong(t, "fun f (x : int) : bytes = @x "+start, api.ErrType)
	wrong(t, "fun f (x : int) : int = x + 1 @< 2 "+start, api.ErrType)
	wrong(t, "fun f (x : int) : (int * int) = @(x, x, x) "+start, api.ErrType)
	wrong(t, "fun f (x : int) : int = @g(x) fun g (x : int) : int = x "+start, api.ErrOrder)
	wrong(t, "fun f (x : int) : int = x fun g (x : int) : int = f(@h(x)) fun h (x : int) : int = g(x) "+start, api.ErrOrder)
	wrong(t, "fun f (x : int) : int = @g(1, y) fun g (x : int) : int = x "+start, api.ErrOrder)
	wrong(t, "fun f (x : int) : int = @g(x) fun g (x : none) : none = x "+start, api.ErrOrder)
	wrong(t, "fun f (x : int) : int = @g(x) fun h (x : int) : int = x fun g (x : int) : int = x fun g (x : int) : int = x "+start, api.ErrOrder)
	wrong(t, "fun f (x : int) : int = @h(x) fun g (x : int) : int = x "+start, api.ErrName)
	wrong(t, "fun f (x : int) : int = @f(x, x) "+start, api.ErrCount)
	wrong(t, "fun f (x : int) : int = f(@\"a\") "+start, api.ErrType)
	wrong(t, "fun f (x : int) : bool = x < @f(x) "+start, api.ErrType)
	wrong(t, "fun f (x : bool) : int = match x with True -> 1 | False -> @x end "+start, api.ErrType)
	wrong(t, "fun f (x : bool) : int = match x with @(x, y) -> 1 end "+start, api.ErrType)
}

// P9.3: the state, and what it is at first
func TestCheckInit(t *testing.T) {
	wrong(t, "queue 1 state none cap 0 = @0", api.ErrName)
	wrong(t, "queue 1 state (int * none) cap 0 = @x", api.ErrName)
	wrong(t, "queue 1 state int cap 0 = @x", api.ErrName)
	wrong(t, "queue 1 state int cap 0 = @state", api.ErrName)
	wrong(t, "queue 1 state int cap 0 = @\"a\"", api.ErrType)
	wrong(t, "queue 1 state bytes cap 0 = @0", api.ErrType)
	wrong(t, "queue 1 state (int * bytes) cap 0 = (1, @x)", api.ErrName)
	wrong(t, "queue 1 state (int * bytes) cap 0 = @(1, 2)", api.ErrType)
	wrong(t, "queue 1 state bool cap 0 = 1 @+ 2", api.ErrType)
	wrong(t, "fun f (x : int) : int = x queue 1 state int cap 0 = f(@x)", api.ErrName)
	wrong(t, "fun f (x : int) : int = x queue 1 state int cap 0 = @g(1)", api.ErrName)
	wrong(t, "fun f (x : int) : bytes = \"\" queue 1 state int cap 0 = @f(1)", api.ErrType)
	right(t, "queue 1 state int cap 0 = f(g(1)) fun f (x : int) : int = x fun g (x : int) : int = f(x)")
}

// P9.3: handlers' names and parameters
func TestCheckHands(t *testing.T) {
	wrong(t, start+"on a (n : int cap 0) = (state, Done) @on a (n : int cap 0) = (state, Done)", api.ErrTwice)
	wrong(t, start+"on a (n : int cap 0) = (n, Done) on b (n : int cap 0) = (n, Done) @on a (m : bytes cap 9) = (1, Done) on b (n : int cap 0) = (n, Done)", api.ErrTwice)
	wrong(t, start+"@on a (n : none cap 0) = (state, Done)", api.ErrName)
	wrong(t, start+"@on a (n : (int * none) cap 0) = (state, Done)", api.ErrName)
	wrong(t, start+"on a (n : int cap 0) = (n, Done) @on b (n : a cap 0) = (state, Done)", api.ErrName)
	wrong(t, start+"on a (n : int cap 0) = (state + @m, Done)", api.ErrName)
	wrong(t, start+"on a (n : int cap 0) = (n, Done) on b (m : int cap 0) = (@n, Done)", api.ErrName)
	wrong(t, start+"on a (n : bytes cap 0) = (state + @n, Done)", api.ErrType)
	wrong(t, start+"on a (n : int cap 0) = (@f(n), Done)", api.ErrName)
	wrong(t, start+"on a (n : int cap 0) = @state", api.ErrType)
	wrong(t, start+"on a (n : int cap 0) = @Done", api.ErrType)
	wrong(t, start+"on a (n : int cap 0) = @(state, state)", api.ErrType)
	wrong(t, start+"on a (n : int cap 0) = @(Done, state)", api.ErrType)
	wrong(t, start+"on a (n : bytes cap 0) = @(n, Done)", api.ErrType)
	wrong(t, start+"on a (n : int cap 0) = @(state, Done, Done)", api.ErrType)
	wrong(t, start+"on a (n : int cap 0) = (state, Say(@\"a\", Done))", api.ErrType)
	wrong(t, "queue 1 state (int * act) cap 0 = (0, Done) on a (n : int cap 0) = @state", api.ErrType)
	right(t, "queue 1 state (int * act) cap 0 = (0, Done) on a (n : int cap 0) = (state, Done)")
	right(t, "queue 1 state bytes cap 2 = \"\" on a (n : bytes cap 2) = (cat(state, n), Done)")
}

// P9.3: alarm, and its parameter; timers without it
func TestCheckAlarm(t *testing.T) {
	for _, timers := range []string{"", "timers 0 ", "timers 1 ", "timers 32 "} {
		with := timers + start
		right(t, with+"on alarm (k : int cap 0) = (state, Done)")
		right(t, with+"on a (n : int cap 0) = (n, Done) on alarm (k : int cap 0) = (k, Done) on b (n : bytes cap 0) = (state, Done)")
		for _, of := range []string{"bytes", "bool", "act", "(int * int)"} {
			wrong(t, with+"@on alarm (k : "+of+" cap 0) = (state, Done)", api.ErrType)
			right(t, with+"on alarm (k : int cap 0) = (state, Done) on alarms (k : "+of+" cap 0) = (state, Done)")
		}
		wrong(t, with+"@on alarm (k : none cap 0) = (state, Done)", api.ErrName)
		wrong(t, with+"on alarm (k : bytes cap 0) = @(k, Done)", api.ErrType)
		wrong(t, with+"on alarm (k : int cap 0) = (state, Done) @on alarm (k : bytes cap 0) = (state, Done)", api.ErrTwice)
	}
	for _, hands := range []string{"", " on a (n : int cap 0) = (n, Done)", " on alarms (n : int cap 0) = (n, Done) on alar (alarm : int cap 0) = (alarm, Done)"} {
		right(t, "timers 0 queue 1 state int cap 0 = 0"+hands)
		wrong(t, "timers 1 queue 1 state int cap 0 = @0"+hands, api.ErrMiss)
		wrong(t, "timers 32 fun alarm (alarm : int) : int = alarm queue 1 state int cap 0 = 1 @+ 2"+hands, api.ErrMiss)
	}
}

// P9.3: several things at once: each row's fault is told ahead of all that come behind it
func TestCheckInOrder(t *testing.T) {
	rows := []struct {
		err   api.Errno
		spoil func(p *api.Prog)
		at    func(p api.Prog) api.Pos
	}{
		{api.ErrForm, func(p *api.Prog) { p.Queue = 0 }, func(api.Prog) api.Pos { return api.Pos{} }},
		{api.ErrTwice, func(p *api.Prog) { p.Datas[1].Name = "bool" }, func(p api.Prog) api.Pos { return p.Datas[1].At }},
		{api.ErrName, func(p *api.Prog) { p.Datas[0].Cons[0].Fields = []api.Type{data("none")} }, func(p api.Prog) api.Pos { return p.Datas[0].At }},
		{api.ErrEmpty, func(p *api.Prog) { p.Datas[1].Cons[0].Fields = []api.Type{data(p.Datas[1].Name)} }, func(p api.Prog) api.Pos { return p.Datas[1].At }},
		{api.ErrTwice, func(p *api.Prog) { p.Funs[0].Params[1].Name = p.Funs[0].Params[0].Name }, func(p api.Prog) api.Pos { return p.Funs[0].At }},
		{api.ErrName, func(p *api.Prog) { p.Funs[0].Params[1].Type = data("none") }, func(p api.Prog) api.Pos { return p.Funs[0].At }},
		{api.ErrType, func(p *api.Prog) { p.Funs[0].Body.Kids[0] = quoted("a") }, func(p api.Prog) api.Pos { return p.Funs[0].Body.Kids[0].At }},
		{api.ErrType, func(p *api.Prog) { p.Funs[0].Result = text() }, func(p api.Prog) api.Pos { return p.Funs[0].Body.At }},
		{api.ErrTwice, func(p *api.Prog) { p.Funs[1].Name = p.Funs[0].Name }, func(p api.Prog) api.Pos { return p.Funs[1].At }},
		{api.ErrName, func(p *api.Prog) { p.Funs[1].Result = tuple(number(), data("none")) }, func(p api.Prog) api.Pos { return p.Funs[1].At }},
		{api.ErrOrder, func(p *api.Prog) { p.Funs[1].Body.Kids[1].Name = "last" }, func(p api.Prog) api.Pos { return p.Funs[1].Body.Kids[1].At }},
		{api.ErrName, func(p *api.Prog) { p.Funs[2].Params[0].Type = data("none") }, func(p api.Prog) api.Pos { return p.Funs[2].At }},
		{api.ErrName, func(p *api.Prog) { p.State.Parts[1] = data("none") }, func(p api.Prog) api.Pos { return p.Init.At }},
		{api.ErrName, func(p *api.Prog) { p.Init.Kids[1] = variable("state") }, func(p api.Prog) api.Pos { return p.Init.Kids[1].At }},
		{api.ErrType, func(p *api.Prog) { p.Init.Kids[0] = p.Init.Kids[1] }, func(p api.Prog) api.Pos { return p.Init.At }},
		{api.ErrName, func(p *api.Prog) { p.Hands[0].Param.Type = data("none") }, func(p api.Prog) api.Pos { return p.Hands[0].At }},
		{api.ErrName, func(p *api.Prog) { p.Hands[0].Body.Kids[0] = variable("none") }, func(p api.Prog) api.Pos { return p.Hands[0].Body.Kids[0].At }},
		{api.ErrType, func(p *api.Prog) { p.Hands[0].Body.Kids[0] = num(1) }, func(p api.Prog) api.Pos { return p.Hands[0].Body.At }},
		{api.ErrTwice, func(p *api.Prog) { p.Hands[1].Name = p.Hands[0].Name }, func(p api.Prog) api.Pos { return p.Hands[1].At }},
		{api.ErrName, func(p *api.Prog) { p.Hands[1].Param.Type = data("none") }, func(p api.Prog) api.Pos { return p.Hands[1].At }},
		{api.ErrType, func(p *api.Prog) { p.Hands[1].Body.Kids[1] = p.Hands[1].Body.Kids[0] }, func(p api.Prog) api.Pos { return p.Hands[1].Body.At }},
		{api.ErrType, func(p *api.Prog) { p.Hands[1].Name, p.Hands[1].Param.Type = "alarm", text() }, func(p api.Prog) api.Pos { return p.Hands[1].At }},
		{api.ErrName, func(p *api.Prog) { p.Hands[2].Param.Type = data("none") }, func(p api.Prog) api.Pos { return p.Hands[2].At }},
		{api.ErrMiss, func(p *api.Prog) { p.Timers = 1 }, func(p api.Prog) api.Pos { return p.Init.At }},
	}
	good := func() api.Prog {
		return numbered(prog(t, `type t = A type u = B of int
fun add (x : int, y : int) : int = x + y
fun mul (x : int, y : int) : int = x * add(x, y)
fun last (x : int, y : int) : int = x
queue 1 state (int * bytes) cap 9 = (1, "a")
on one (n : int cap 0) = (state, Done)
on two (n : int cap 0) = (state, Say(1, Done))
on six (n : int cap 0) = (state, Done)`))
	}
	for i, first := range rows {
		for k := i; k < len(rows); k++ {
			p := good()
			// what is told ahead is spoilt last: it holds where both spoil one thing
			rows[k].spoil(&p)
			first.spoil(&p)
			p = numbered(p)
			want := api.Fault{Err: first.err, At: first.at(p)}
			if got := checks(t, p); got != want {
				t.Errorf("spoilt in the rows %d and %d: Check = %v, want %v", i, k, got, want)
			}
		}
	}
}

// P9.3: programs that look like chance, most of them right
func TestCheckOfMany(t *testing.T) {
	s := sower(88172645463325252)
	m, p := newMaker(t, &s)
	seen := map[api.Errno]int{}
	for i := range 6000 {
		m.slip = []int{0, 60, 200, 600}[i%4]
		p := numbered(m.prog(p.Datas))
		fault := checks(t, p)
		if m.slip == 0 && fault != (api.Fault{}) {
			t.Fatalf("a program that is right has the fault %v: %s", fault, short(p))
		}
		seen[fault.Err]++
	}
	for err, least := range map[api.Errno]int{
		api.OK: 500, api.ErrForm: 50, api.ErrName: 100, api.ErrType: 100, api.ErrCount: 20, api.ErrTwice: 50, api.ErrOrder: 5, api.ErrMiss: 10,
	} {
		if seen[err] < least {
			t.Errorf("%d programs had the fault %d: too few", seen[err], err)
		}
	}
}

// P9.3: each field of a program by itself
func TestCheckByOneField(t *testing.T) {
	p := numbered(prog(t, list+`type pair = Pair of list * bytes
fun sum (l : list) : int = match l with Nil -> 0 | Cons(x, r) -> x + sum(r) end
fun two (p : pair, n : int) : (int * bool) = match p with Pair(l, b) -> (sum(l), at(b, n) < 3) end
queue 2 timers 1 state pair cap 9 = Pair(Cons(1, Nil), "a")
on add (n : int cap 0) = let x = two(state, n) in match x with (s, b) -> (state, if b then Say(s, Done) else Done) end
on alarm (k : int cap 0) = (for 3 with s = state do s, Done)`))
	if got := checks(t, p); got != (api.Fault{}) {
		t.Fatalf("Check = %v", got)
	}
	seen := map[api.Errno]int{}
	changes(p, func(c api.Prog, _ string) { seen[checks(t, c).Err]++ })
	for _, err := range []api.Errno{api.OK, api.ErrForm, api.ErrName, api.ErrTwice, api.ErrType, api.ErrCount, api.ErrEmpty, api.ErrMiss, api.ErrOrder} {
		if seen[err] == 0 {
			t.Errorf("no program had the fault %d", err)
		}
	}
}

// P9.3: the place is the part's, whatever it is
func TestCheckPlaces(t *testing.T) {
	for _, at := range []api.Pos{{}, {Line: -3, Col: 1 << 40}, {Line: 7, Col: 7}} {
		p := prog(t, "fun f (x : int) : int = x "+start+"on a (n : int cap 0) = (state, Done)")
		spoilt := func(err api.Errno, spoil func(p *api.Prog)) {
			t.Helper()
			p := twin(p)
			spoil(&p)
			if got, want := checks(t, p), (api.Fault{Err: err, At: at}); got != want {
				t.Errorf("Check = %v, want %v", got, want)
			}
		}
		spoilt(api.ErrName, func(p *api.Prog) { p.Funs[0].At, p.Funs[0].Result = at, data("none") })
		spoilt(api.ErrType, func(p *api.Prog) { p.Funs[0].Body.At, p.Funs[0].Result = at, text() })
		spoilt(api.ErrMiss, func(p *api.Prog) { p.Init.At, p.Timers = at, 1 })
		spoilt(api.ErrName, func(p *api.Prog) { p.Hands[0].At, p.Hands[0].Param.Type = at, data("none") })
		spoilt(api.ErrName, func(p *api.Prog) { p.Hands[0].Body.Kids[0] = api.Expr{Kind: api.ExVar, Name: "x", At: at} })
	}
}

// P9.3, P9.2: of what is right each expression has the type that is promised
func TestCheckMeansTypes(t *testing.T) {
	s := sower(521288629)
	m, p := newMaker(t, &s)
	for range 500 {
		m.slip = 300
		p := m.prog(p.Datas)
		if check.Check(p) != (api.Fault{}) {
			continue
		}
		is := func(env []api.Param, e api.Expr, want api.Type) {
			t.Helper()
			if got, fault := check.TypeOf(p, env, e); fault != (api.Fault{}) || !ty.Same(got, want) {
				t.Fatalf("%s is of %s, %v, want %s", short(e), spelled(got), fault, spelled(want))
			}
		}
		for _, f := range p.Funs {
			is(f.Params, f.Body, f.Result)
		}
		is(nil, p.Init, p.State)
		for _, h := range p.Hands {
			is([]api.Param{param("state", p.State), h.Param}, h.Body, tuple(p.State, data("act")))
		}
	}
}
