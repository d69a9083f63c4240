package halt_test

import (
	"strconv"
	"strings"
	"testing"

	"handloom/api"
	"handloom/cover"
	"handloom/halt"
)

// checks holds what Check tells against the second reading, and is it.
func checks(t *testing.T, p api.Prog) api.Fault {
	t.Helper()
	got, want := halt.Check(p), wantCheck(p)
	if got != want {
		t.Fatalf("Check(%s) = %v, want %v", short(p), got, want)
	}
	return got
}

// wrong wants a text to have a fault where @ stands in it; without @ it is to have none.
func wrong(t *testing.T, src string, err api.Errno) {
	t.Helper()
	want := api.Fault{Err: err}
	ahead, behind, ok := strings.Cut(src, "@")
	if ok {
		want.At = place(1+strings.Count(ahead, "\n"), len(ahead)-strings.LastIndex(ahead, "\n"))
	}
	if got := checks(t, prog(t, ahead+behind)); got != want {
		t.Errorf("Check of %q = %v, want %v", src, got, want)
	}
}

// fine wants functions of house's types to have no fault.
func fine(t *testing.T, src string) {
	t.Helper()
	wrong(t, house+src+start, api.OK)
}

// loops wants functions of house's types to have ErrLoop where @ stands.
func loops(t *testing.T, src string) {
	t.Helper()
	wrong(t, house+src+start, api.ErrLoop)
}

// P11.3: functions that come to an end
func TestCheckOfRight(t *testing.T) {
	fine(t, "")
	fine(t, "fun f (l : list) : int = match l with Nil -> 0 | Cons(x, r) -> f(r) end")
	fine(t, "fun f (x : int) : int = x fun g (x : int) : int = f(f(x)) + f(x) fun h (x : int) : int = for 3 with y = g(x) do f(g(y))")
	fine(t, "fun f (l : list, s : int) : int = match l with Nil -> s | Cons(x, r) -> f(r, s + x) end")
	fine(t, "fun f (s : int, l : list) : int = match l with Nil -> s | Cons(0, Cons(x, r)) -> f(s, r) | Cons(x, r) -> if x < 1 then f(x, r) else f(0 - x, r) end")
	fine(t, "fun f (t : tree, x : int) : bool = match t with Leaf -> False | Node(a, y, b) -> if x == y then True else if x < y then f(a, x) else f(b, x) end")
	fine(t, "fun f (w : wrap) : int = match w with End -> 0 | Wrap(p) -> match p with (n, v) -> n + f(v) end end")
	fine(t, "fun f (r : rose) : int = match r with Rose(n, s) -> match s with Bare -> n | More(a, _) -> f(a) end end")
	fine(t, "fun f (a : list, b : list) : list = match a with Nil -> b | Cons(x, r) -> Cons(x, f(r, b)) end fun g (a : list) : list = match a with Nil -> a | Cons(x, r) -> f(g(r), Cons(x, Nil)) end")
	wrong(t, "queue 2 timers 1 state int cap 0 = 0 on add (n : int cap 0) = (state + n, Done) on alarm (k : int cap 0) = (state, Say(k, Done))", api.OK)
	// a handler's name is no function's, and nothing beside functions calls itself
	wrong(t, house+"fun f (l : list) : int = match l with Nil -> 0 | Cons(_, r) -> f(r) end queue 1 state int cap 0 = f(Nil) + f(Nil) on f (l : list cap 9) = (for 2 with x = f(l) do f(l), Say(f(l), Done))", api.OK)
}

// P11.3: ErrLoop at the function's place, whatever is wrong with its calls
func TestCheckLoops(t *testing.T) {
	loops(t, "@fun f (l : list) : int = f(l)")
	loops(t, "@fun f (x : int) : int = f(x - 1)")
	loops(t, "@fun f (x : int) : int = if x < 1 then 0 else f(x - 1)")
	loops(t, "@fun f (l : list) : int = match l with Nil -> 0 | Cons(x, r) -> f(l) end")
	loops(t, "@fun f (l : list) : int = match l with Nil -> 0 | Cons(x, r) -> f(Cons(x, r)) end")
	loops(t, "@fun f (l : list) : int = match l with Nil -> f(Nil) | Cons(x, r) -> f(r) end")
	loops(t, "@fun f (l : list) : int = match l with Nil -> 0 | Cons(x, r) -> let r = l in f(r) end")
	loops(t, "@fun f (l : list) : int = match l with Nil -> 0 | Cons(x, r) -> f(r) + f(r) end")
	loops(t, "@fun f (l : list) : int = match l with Nil -> 0 | Cons(x, r) -> for 1 with y = 0 do f(r) end")
	loops(t, "@fun f (a : list, b : list) : int = match a with Nil -> 0 | Cons(x, r) -> f(b, r) end")
	loops(t, "@fun f (t : tree) : int = match t with Leaf -> 0 | Node(a, n, b) -> f(a) + n + f(b) end")
	loops(t, "@fun f (a : list, b : list) : int = match (a, b) with (Cons(_, p), Cons(_, q)) -> f(p, q) | _ -> 0 end")
	loops(t, "@fun f (l : list) : list = match l with Nil -> Nil | Cons(x, r) -> f(f(r)) end")
	loops(t, "fun g (l : list) : list = l\n  @fun f (l : list) : int = match g(l) with Nil -> 0 | Cons(x, r) -> f(r) end")
}

// P11.3: of several functions that do not go down the first one is told
func TestCheckTheFirst(t *testing.T) {
	const count = 12
	text := func(wrong func(i int) bool, at int) string {
		var l []string
		for i := range count {
			name, arg, sign := "f"+strconv.Itoa(i), "r", ""
			if wrong(i) {
				arg = "l"
			}
			if i == at {
				sign = "@"
			}
			l = append(l, sign+"fun "+name+" (l : list, r : int) : int = match l with Nil -> r | Cons(x, r) -> "+name+"("+arg+", x) end")
		}
		return strings.Join(l, "\n ")
	}
	fine(t, text(func(i int) bool { return false }, -1))
	for i := range count {
		loops(t, text(func(n int) bool { return n == i }, i))
		loops(t, text(func(n int) bool { return n >= i }, i))
		loops(t, text(func(n int) bool { return n == i || n == count-1 }, i))
	}
}

// P11.3: names that one function has mean nothing in the next one
func TestCheckEachByItself(t *testing.T) {
	const good = "fun f (l : list) : int = match l with Nil -> 0 | Cons(x, r) -> f(r) end "
	loops(t, good+"@fun g (r : list) : int = match r with Nil -> 0 | Cons(x, l) -> let m = l in g(m) end")
	loops(t, good+"@fun g (r : list, x : int) : int = match r with Nil -> 0 | Cons(_, _) -> g(r, x) end")
	loops(t, good+"@fun g (m : list) : int = let l = m in match l with Nil -> 0 | Cons(x, r) -> g(r) end")
	fine(t, good+"fun g (r : list, l : int) : int = match r with Nil -> l | Cons(l, x) -> g(x, l) end fun h (m : list, x : list, l : tree) : int = match x with Nil -> f(m) | Cons(_, l) -> h(m, l, Leaf) end")
	// more parameters, and fewer, than the one ahead
	fine(t, "fun f (a : int, b : int, l : list) : int = match l with Nil -> 0 | Cons(_, r) -> f(a, b, r) end "+"fun g (l : list) : int = match l with Nil -> 0 | Cons(_, r) -> g(r) end fun h (a : int, l : list) : int = match l with Nil -> 0 | Cons(_, r) -> h(a, r) end")
}

// P11.3: what cover.Check finds is told as it is, ahead of all functions
func TestCheckCover(t *testing.T) {
	const looping = "fun f (l : bool) : int = f(l) "
	wrong(t, looping+"queue 1 state int cap 0 = @match 1 < 2 with True -> 1 end", api.ErrCover)
	wrong(t, looping+"queue 1 state int cap 0 = match 1 < 2 with _ -> 1 | @True -> 2 end", api.ErrSpare)
	wrong(t, looping+"fun g (x : int) : int = @match x with 0 -> g(x) end "+start, api.ErrCover)
	wrong(t, looping+"queue 1 state int cap 0 = @x", api.ErrName)
	wrong(t, looping+"queue 1 state int cap 0 = @True", api.ErrType)
	wrong(t, looping+"queue 1 state int cap 0 = 0 on a (n : int cap 0) = (f(@n), Done)", api.ErrType)
	wrong(t, looping+"@fun f (x : int) : int = x "+start, api.ErrTwice)
	wrong(t, looping+"queue 1 timers 1 state int cap 0 = @0", api.ErrMiss)
	wrong(t, "@type t = A of t "+looping+start, api.ErrEmpty)
	wrong(t, "fun f (x : int) : int = @g(x) fun g (x : int) : int = f(x) "+start, api.ErrOrder)
	wrong(t, "fun f (x : int, l : bool) : int = @f(x) "+start, api.ErrCount)
	wrong(t, "fun f (x : int, l : bool) : int = f(x, @x) "+start, api.ErrType)
	for _, spoil := range []func(p *api.Prog){
		func(p *api.Prog) { *p = api.Prog{} },
		func(p *api.Prog) { p.Queue = 0 },
		func(p *api.Prog) { p.Init.Kind = 11 },
		func(p *api.Prog) { p.Funs[0].Body.Kids = nil },
		func(p *api.Prog) { p.Funs[0].Params = nil },
		func(p *api.Prog) { p.Funs[0].Name = "len" },
	} {
		p := prog(t, looping+start)
		spoil(&p)
		if got := checks(t, p); got != (api.Fault{Err: api.ErrForm}) {
			t.Errorf("Check(%s) = %v, want a fault of its form", short(p), got)
		}
	}
}

// P11.3: the place is the function's, whatever it is
func TestCheckPlaces(t *testing.T) {
	for _, at := range []api.Pos{{}, {Line: -3, Col: 1 << 40}, {Line: 7, Col: 7}} {
		p := prog(t, house+"fun f (l : list) : int = match l with Nil -> 0 | Cons(x, r) -> f(l) end"+start)
		p.Funs[0].At = at
		if got, want := checks(t, p), (api.Fault{Err: api.ErrLoop, At: at}); got != want {
			t.Errorf("Check = %v, want %v", got, want)
		}
	}
}

// P11.3: programs that look like chance
func TestCheckOfMany(t *testing.T) {
	s := sower(521288629)
	m := newMaker(t, &s)
	seen := map[api.Errno]int{}
	for i := range 3000 {
		m.slip = []int{0, 60, 20, 8}[i%4]
		p := numbered(m.prog())
		if f := cover.Check(p); f != (api.Fault{}) {
			t.Fatalf("%s has the fault %v", short(p), f)
		}
		got := checks(t, p)
		if m.slip == 0 && got != (api.Fault{}) {
			t.Fatalf("a program that is right has the fault %v: %s", got, short(p))
		}
		seen[got.Err]++
	}
	if seen[api.OK] < 900 || seen[api.ErrLoop] < 400 {
		t.Errorf("programs had the faults %v: too few", seen)
	}
}

// P11.3: each field of a program by itself
func TestCheckByOneField(t *testing.T) {
	p := numbered(prog(t, `type list = Nil | Cons of int * list
fun g (x : int) : int = x
fun f (l : list, m : list) : int = match l with Nil -> g(1) | Cons(x, r) -> match m with Nil -> f(r, l) | Cons(q, l) -> let x = f(r, l) in if x < q then g(x) else 0 end end
queue 1 state list cap 9 = Cons(f(Nil, Nil), Nil)
on add (n : int cap 0) = (Cons(f(state, state), Nil), Done)`))
	if got := checks(t, p); got != (api.Fault{}) {
		t.Fatalf("Check = %v", got)
	}
	seen := map[api.Errno]int{}
	changes(p, func(c api.Prog) { seen[checks(t, c).Err]++ })
	for _, err := range []api.Errno{api.OK, api.ErrForm, api.ErrName, api.ErrType, api.ErrCount, api.ErrOrder, api.ErrSpare, api.ErrCover, api.ErrLoop} {
		if seen[err] == 0 {
			t.Errorf("no program had the fault %d", err)
		}
	}
}
