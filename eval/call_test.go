package eval_test

import (
	"math"
	"reflect"
	"strings"
	"testing"

	"handloom/api"
	"handloom/eval"
	"handloom/halt"
)

// callIs holds what Call tells against the second reading, and is its error.
func callIs(t *testing.T, p api.Prog, name string, args []api.Value, fuel int) api.Errno {
	t.Helper()
	got, want := answered(eval.Call(p, name, args, fuel)), wantCall(p, name, args, fuel)
	if !reflect.DeepEqual(got, want) {
		t.Fatalf("Call(%s, %q, %s, %d) = %s, want %s", short(p), name, short(args), fuel, short(got), short(want))
	}
	return got.err
}

func initIs(t *testing.T, p api.Prog, fuel int) api.Errno {
	t.Helper()
	got, want := answered(eval.Init(p, fuel)), wantInit(p, fuel)
	if !reflect.DeepEqual(got, want) {
		t.Fatalf("Init(%s, %d) = %s, want %s", short(p), fuel, short(got), short(want))
	}
	return got.err
}

func handIs(t *testing.T, p api.Prog, name string, state, v api.Value, fuel int) api.Errno {
	t.Helper()
	got, want := answered(eval.Hand(p, name, state, v, fuel)), wantHand(p, name, state, v, fuel)
	if !reflect.DeepEqual(got, want) {
		t.Fatalf("Hand(%s, %q, %s, %s, %d) = %s, want %s", short(p), name, short(state), short(v), fuel, short(got), short(want))
	}
	return got.err
}

// shop is a program of all sorts of parts.
func shop(t *testing.T) api.Prog {
	t.Helper()
	return prog(t, house+`fun f (n : int, l : list) : int = match l with Nil -> n | Cons(x, r) -> f(n + x, r) end
		fun g (b : bytes) : list = Cons(at(b, 0), Nil)
		queue 1 timers 1 state (int * list) cap 9 = (1, g("a"))
		on h (b : bytes cap 0) = match state with (n, l) -> ((f(n, g(b)), l), Tell(b, Done)) end
		on alarm (k : int cap 0) = (state, Stop(k, Done))`)
}

// broken is programs in which something is wrong, of each sort.
func broken(t *testing.T) []api.Prog {
	t.Helper()
	p := api.Prog{}
	l := []api.Prog{p}
	for _, spoil := range []func(p *api.Prog){
		func(p *api.Prog) { p.Queue = 0 },
		func(p *api.Prog) { p.Timers = 33 },
		func(p *api.Prog) { p.Init = num(1) },
		func(p *api.Prog) { p.Init.Kind = 11 },
		func(p *api.Prog) { p.Init.Kids = nil },
		func(p *api.Prog) { p.Hands = p.Hands[:1] },
		func(p *api.Prog) { p.Hands[1].Name = "h" },
		func(p *api.Prog) { p.Funs[1].Name = "f" },
		func(p *api.Prog) {
			p.Funs[0], p.Funs[1] = p.Funs[1], p.Funs[0]
			p.Funs[0].Body.Kids[0] = call("f", num(1), conOf("Nil"))
		},
		func(p *api.Prog) {
			p.Datas[0].Cons[0].Fields = []api.Type{data("color")}
			p.Datas[0].Cons = p.Datas[0].Cons[:1]
		},
		func(p *api.Prog) { p.Funs[0].Body.Arms = p.Funs[0].Body.Arms[:1] },
		func(p *api.Prog) { p.Funs[0].Body.Arms[0].Pat = anyPat() },
		func(p *api.Prog) { p.Funs[0].Body.Arms[1].Body.Kids[1].Name = "l" },
		func(p *api.Prog) { p.State = data("nothing") },
	} {
		p := shop(t)
		spoil(&p)
		l = append(l, p)
	}
	return l
}

// P12.2, P12.3: ErrForm of whatever halt.Check finds, ahead of all else
func TestErrForm(t *testing.T) {
	nine := []api.Value{numVal(9)}
	seen := map[api.Errno]int{}
	for _, p := range broken(t) {
		seen[halt.Check(p).Err]++
		for _, fuel := range []int{api.MaxFuel, 0} {
			for _, args := range [][]api.Value{vals(t, "1", "Nil"), nine, nil} {
				for _, name := range []string{"f", "none"} {
					if err := callIs(t, p, name, args, fuel); err != api.ErrForm {
						t.Errorf("Call of a program that is wrong: %d", err)
					}
				}
			}
			for _, v := range []api.Value{textVal("a"), numVal(1)} {
				for _, name := range []string{"h", "none"} {
					if err := handIs(t, p, name, val(t, "(1, Nil)"), v, fuel); err != api.ErrForm {
						t.Errorf("Hand of a program that is wrong: %d", err)
					}
				}
			}
			if err := initIs(t, p, fuel); err != api.ErrForm {
				t.Errorf("Init of a program that is wrong: %d", err)
			}
		}
	}
	for _, err := range []api.Errno{api.ErrForm, api.ErrType, api.ErrMiss, api.ErrTwice, api.ErrOrder, api.ErrEmpty, api.ErrCover, api.ErrSpare, api.ErrLoop, api.ErrName} {
		if seen[err] == 0 {
			t.Errorf("no program with the fault %d was asked: %v", err, seen)
		}
	}
}

// P12.2: of several errors of a call the first that is named
func TestCallErrors(t *testing.T) {
	p := shop(t)
	good := vals(t, "1", "Cons(2, Nil)")
	for _, c := range []struct {
		name string
		args []api.Value
		fuel int
		want api.Errno
	}{
		{"f", good, api.MaxFuel, api.OK},
		{"none", good, api.MaxFuel, api.ErrNone}, {"", good, api.MaxFuel, api.ErrNone}, {"F", good, api.MaxFuel, api.ErrNone}, {"ff", good, api.MaxFuel, api.ErrNone}, {"f\x00", good, api.MaxFuel, api.ErrNone},
		{"h", good, api.MaxFuel, api.ErrNone}, {"alarm", vals(t, "1"), api.MaxFuel, api.ErrNone}, {"len", vals(t, `"a"`), api.MaxFuel, api.ErrNone}, {"state", nil, api.MaxFuel, api.ErrNone},
		{"none", nil, api.MaxFuel, api.ErrNone}, {"none", good[:1], 0, api.ErrNone}, {"none", vals(t, "Nil"), 0, api.ErrNone},
		{"f", nil, api.MaxFuel, api.ErrCount}, {"f", []api.Value{}, api.MaxFuel, api.ErrCount}, {"f", good[:1], api.MaxFuel, api.ErrCount}, {"f", vals(t, "1", "Nil", "2"), api.MaxFuel, api.ErrCount}, {"g", nil, api.MaxFuel, api.ErrCount},
		{"f", vals(t, "Nil"), api.MaxFuel, api.ErrCount}, {"f", vals(t, "Nil", "1", "Nil"), 0, api.ErrCount}, {"g", good, -1, api.ErrCount}, {"f", good[:1], 0, api.ErrCount},
		{"f", vals(t, "Nil", "Nil"), api.MaxFuel, api.ErrType}, {"f", vals(t, "1", "1"), api.MaxFuel, api.ErrType}, {"f", vals(t, "Nil", "1"), api.MaxFuel, api.ErrType}, {"f", vals(t, "1", "Leaf"), api.MaxFuel, api.ErrType},
		{"g", vals(t, "1"), api.MaxFuel, api.ErrType}, {"f", vals(t, "1", "Cons(Nil, Nil)"), api.MaxFuel, api.ErrType}, {"f", vals(t, "1", "Cons(1)"), 0, api.ErrType}, {"f", vals(t, "Nil", "Nil"), -1, api.ErrType},
		{"f", []api.Value{numVal(most + 1), conVal("Nil")}, api.MaxFuel, api.ErrType}, {"f", []api.Value{numVal(least - 1), conVal("Nil")}, api.MaxFuel, api.ErrType}, {"g", []api.Value{textVal(strings.Repeat("a", 65))}, api.MaxFuel, api.ErrType},
		{"f", []api.Value{{Name: "x"}, conVal("Nil")}, api.MaxFuel, api.ErrType}, {"f", []api.Value{{Kind: -1}, {Kind: 4}}, api.MaxFuel, api.ErrType}, {"g", []api.Value{{}}, api.MaxFuel, api.ErrType},
		{"f", good, 0, api.ErrFuel}, {"f", good, -1, api.ErrFuel}, {"f", good, math.MinInt, api.ErrFuel}, {"g", vals(t, `""`), 3, api.ErrFuel},
		{"f", []api.Value{numVal(most), conVal("Nil")}, api.MaxFuel, api.OK}, {"f", []api.Value{numVal(least), conVal("Nil")}, math.MaxInt, api.OK}, {"g", []api.Value{textVal(strings.Repeat("a", 64))}, api.MaxFuel, api.OK},
	} {
		if err := callIs(t, p, c.name, c.args, c.fuel); err != c.want {
			t.Errorf("Call(%q, %s, %d): %d, want %d", c.name, short(c.args), c.fuel, err, c.want)
		}
	}
}

// P12.3: of several errors of a handler the first that is named; how many words state and value have is not asked
func TestHandErrors(t *testing.T) {
	p := shop(t)
	state, text := val(t, "(1, Nil)"), val(t, `"abc"`)
	for _, c := range []struct {
		name     string
		state, v api.Value
		fuel     int
		want     api.Errno
	}{
		{"h", state, text, api.MaxFuel, api.OK}, {"alarm", state, numVal(1), api.MaxFuel, api.OK},
		{"none", state, text, api.MaxFuel, api.ErrNone}, {"", state, text, api.MaxFuel, api.ErrNone}, {"f", state, text, api.MaxFuel, api.ErrNone}, {"g", state, text, api.MaxFuel, api.ErrNone}, {"none", text, state, 0, api.ErrNone}, {"H", state, text, 0, api.ErrNone},
		{"h", text, text, api.MaxFuel, api.ErrType}, {"h", state, state, api.MaxFuel, api.ErrType}, {"h", text, state, api.MaxFuel, api.ErrType}, {"h", text, text, 0, api.ErrType}, {"h", state, state, -1, api.ErrType}, {"alarm", state, text, api.MaxFuel, api.ErrType},
		{"h", numVal(1), text, api.MaxFuel, api.ErrType}, {"h", val(t, "(1, Leaf)"), text, api.MaxFuel, api.ErrType}, {"h", val(t, "(1, Nil, Nil)"), text, api.MaxFuel, api.ErrType}, {"h", api.Value{}, api.Value{}, api.MaxFuel, api.ErrType},
		{"alarm", state, numVal(most + 1), api.MaxFuel, api.ErrType}, {"h", state, textVal(strings.Repeat("a", 65)), api.MaxFuel, api.ErrType}, {"h", rowVal(numVal(least-1), conVal("Nil")), text, api.MaxFuel, api.ErrType},
		{"h", state, text, 0, api.ErrFuel}, {"h", state, text, -1, api.ErrFuel}, {"alarm", state, numVal(1), math.MinInt, api.ErrFuel},
		{"h", state, textVal(strings.Repeat("a", 64)), api.MaxFuel, api.OK},
		{"h", rowVal(numVal(1), nested(300, conVal("Nil"), func(v api.Value) api.Value { return conVal("Cons", numVal(1), v) })), text, api.MaxFuel, api.OK},
	} {
		if err := handIs(t, p, c.name, c.state, c.v, c.fuel); err != c.want {
			t.Errorf("Hand(%q, %s, %s, %d): %d, want %d", c.name, short(c.state), short(c.v), c.fuel, err, c.want)
		}
	}
}

// P12.2, P12.3: each field of a program, and of values, by itself
func TestByOneField(t *testing.T) {
	p := prog(t, `type list = Nil | Cons of int * list
		fun f (x : int, l : list) : int = match l with Nil -> x | Cons(n, y) -> if n < x then f(n, y) else let x = len("ab") in for 2 with n = f(x, y) do n + 1 end
		queue 1 state list cap 9 = Cons(1, Nil)
		on g (n : int cap 0) = (Cons(f(n, state), Nil), Say(n, Done))`)
	args, state := vals(t, "2", "Cons(1, Cons(5, Nil))"), val(t, "Cons(4, Nil)")
	right, asked := 0, 0
	changes(p, func(p api.Prog) {
		asked++
		if initIs(t, p, api.MaxFuel) == api.OK {
			right++
		}
		callIs(t, p, "f", args, api.MaxFuel)
		handIs(t, p, "g", state, numVal(3), api.MaxFuel)
	})
	if right < 200 || asked < 2000 {
		t.Errorf("of %d programs %d were right: too few", asked, right)
	}
	changes(args, func(args []api.Value) { callIs(t, p, "f", args, api.MaxFuel) })
	changes(state, func(state api.Value) { handIs(t, p, "g", state, numVal(3), api.MaxFuel) })
	changes(numVal(3), func(v api.Value) { handIs(t, p, "g", state, v, api.MaxFuel) })
	for _, name := range []string{"f", "g", "", "x", "list", "Nil", "state", "len"} {
		callIs(t, p, name, args, api.MaxFuel)
		handIs(t, p, name, state, numVal(3), api.MaxFuel)
	}
}

// 0.1, 0.3: whatever is given, also what is not fit
func TestAnything(t *testing.T) {
	s := sower(88172645463325252)
	m := newMaker(t, &s)
	for range 3000 {
		p := s.anyProg()
		callIs(t, p, s.aWord(), some(s.below(3), func() api.Value { return s.anyValue(3) }), s.below(100))
		handIs(t, p, s.aWord(), s.anyValue(3), s.anyValue(3), s.below(100))
		initIs(t, p, s.below(100))
	}
	for range 100 {
		p := m.prog()
		f := pick(&s, p.Funs...)
		callIs(t, p, f.Name, some(len(f.Params), func() api.Value { return s.anyValue(3) }), api.MaxFuel)
		for _, h := range p.Hands {
			handIs(t, p, h.Name, s.anyValue(3), m.aValue(h.Param.Type, 3), api.MaxFuel)
			handIs(t, p, h.Name, m.aValue(p.State, 3), s.anyValue(3), api.MaxFuel)
		}
	}
	for _, p := range []api.Prog{{}, {Datas: []api.Data{}, Funs: []api.Fun{}, Hands: []api.Hand{}}, {Queue: 1}, {Queue: 1, Datas: []api.Data{}, Funs: []api.Fun{}, Hands: []api.Hand{}}} {
		for _, fuel := range []int{math.MinInt, -1, 0, 3, 4, math.MaxInt} {
			callIs(t, p, "", nil, fuel)
			handIs(t, p, "", api.Value{}, api.Value{}, fuel)
			initIs(t, p, fuel)
		}
	}
}
