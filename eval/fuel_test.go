package eval_test

import (
	"math"
	"reflect"
	"strconv"
	"testing"

	"handloom/api"
	"handloom/eval"
)

// first is a program whose first state is an int.
func first(t *testing.T, src string) api.Prog {
	t.Helper()
	return prog(t, funs+"queue 1 state int cap 0 = "+src)
}

// P12.5: what costs s steps is told with any fuel from s on, and ErrFuel with less
func TestFuel(t *testing.T) {
	for src, steps := range map[string]int{"7": 4, "1 + 2": 16, "inc(5)": 26, "size(Cons(5, Nil))": 164, "for 3 with x = 1 do x + x": 78, "for 0 with x = 1 do x": 12, "match 1 with x -> x end": 30} {
		p := first(t, src)
		want := wantInit(p, api.MaxFuel)
		if want.cost.Steps != steps || want.err != api.OK {
			t.Fatalf("%s: %s, want %d steps", src, short(want), steps)
		}
		for fuel := -3; fuel < 2*steps+3; fuel++ {
			if got := initOf(p).ask(fuel); fuel < steps && !reflect.DeepEqual(got, failed(api.ErrFuel)) || fuel >= steps && !reflect.DeepEqual(got, want) {
				t.Errorf("%s: with the fuel %d %s was told", src, fuel, short(got))
			}
		}
		for _, fuel := range []int{math.MinInt, -api.MaxFuel} {
			if got := initOf(p).ask(fuel); !reflect.DeepEqual(got, failed(api.ErrFuel)) {
				t.Errorf("%s: with the fuel %d %s was told", src, fuel, short(got))
			}
		}
		for _, fuel := range []int{api.MaxFuel - 1, api.MaxFuel, api.MaxFuel + 1, 1 << 40, math.MaxInt} {
			if got := initOf(p).ask(fuel); !reflect.DeepEqual(got, want) {
				t.Errorf("%s: with the fuel %d %s was told", src, fuel, short(got))
			}
		}
	}
}

// P12.5: just MaxFuel steps are counted, however much fuel there is
func TestMaxFuel(t *testing.T) {
	const great = "for 104 with x = 0 do for 1000 with y = x do y"
	all := first(t, "let a = ("+great+") in (for 666 with x = 0 do x) + 1")
	more := first(t, "let a = ("+great+") in (for 662 with x = 0 do x) + len(\"\") + 1 + 1 + 1")
	for _, fuel := range []int{api.MaxFuel - 1, api.MaxFuel, api.MaxFuel + 1, api.MaxFuel + 2, math.MaxInt} {
		want := answer{numVal(1), api.Cost{Steps: api.MaxFuel, Peak: 7}, api.OK}
		if fuel < api.MaxFuel {
			want = failed(api.ErrFuel)
		}
		if got := initOf(all).ask(fuel); !reflect.DeepEqual(got, want) {
			t.Errorf("of MaxFuel steps with the fuel %d %s was told", fuel, short(got))
		}
		if got := initOf(more).ask(fuel); !reflect.DeepEqual(got, failed(api.ErrFuel)) {
			t.Errorf("of more than MaxFuel steps with the fuel %d %s was told", fuel, short(got))
		}
	}
}

// P12.5, 0.1: what would take for ever is given up
func TestForEver(t *testing.T) {
	loops := nested(20, num(1), func(e api.Expr) api.Expr { return loop(1000, "x", num(1), e) })
	p := api.Prog{Queue: 1, Init: loops}
	for i := range api.MaxFuns {
		body := api.Expr(op(api.OpAdd, variable("x"), num(1)))
		if i > 0 {
			again := call("f"+strconv.Itoa(i-1), variable("x"))
			body = op(api.OpAdd, again, op(api.OpAdd, again, again))
		}
		p.Funs = append(p.Funs, api.Fun{Name: "f" + strconv.Itoa(i), Params: []api.Param{param("x", number())}, Body: body})
	}
	p.Hands = []api.Hand{{Name: "h", Param: param("x", number()), Body: row(call("f47", variable("x")), conOf("Done"))}}
	for _, got := range []answer{
		initOf(p).ask(math.MaxInt),
		callOf(p, p.Funs[47], []api.Value{numVal(1)}).ask(math.MaxInt),
		handOf(p, p.Hands[0], numVal(1), numVal(1)).ask(math.MaxInt),
	} {
		if !reflect.DeepEqual(got, failed(api.ErrFuel)) {
			t.Errorf("%s was told", short(got))
		}
	}
	// what is not gone through may take for ever
	p.Init = choose(conOf("True"), num(1), loops)
	if v, _, err := eval.Init(p, 18); !reflect.DeepEqual(v, numVal(1)) || err != api.OK {
		t.Errorf("%v, %d was told", v, err)
	}
	p.Init = loop(0, "x", num(1), loops)
	if v, _, err := eval.Init(p, 12); !reflect.DeepEqual(v, numVal(1)) || err != api.OK {
		t.Errorf("%v, %d was told", v, err)
	}
}
