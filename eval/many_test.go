package eval_test

import (
	"math"
	"reflect"
	"testing"

	"handloom/api"
	"handloom/eval"
	"handloom/halt"
	"handloom/value"
)

// deep is how deep a value is.
func deep(v api.Value) int {
	most := 0
	for _, kid := range v.Kids {
		most = max(most, deep(kid))
	}
	return 1 + most
}

// asking is one of the three calls, with whatever it is given but the fuel; want is the second reading of it.
type asking struct {
	ask  func(fuel int) answer
	want func(fuel int) answer
	of   api.Type
}

func callOf(p api.Prog, f api.Fun, args []api.Value) asking {
	return asking{
		func(fuel int) answer { return answered(eval.Call(p, f.Name, args, fuel)) },
		func(fuel int) answer { return wantCall(p, f.Name, args, fuel) },
		f.Result,
	}
}

func initOf(p api.Prog) asking {
	return asking{
		func(fuel int) answer { return answered(eval.Init(p, fuel)) },
		func(fuel int) answer { return wantInit(p, fuel) },
		p.State,
	}
}

func handOf(p api.Prog, h api.Hand, state, v api.Value) asking {
	return asking{
		func(fuel int) answer { return answered(eval.Hand(p, h.Name, state, v, fuel)) },
		func(fuel int) answer { return wantHand(p, h.Name, state, v, fuel) },
		tuple(p.State, data("act")),
	}
}

// allOf is what may be asked of a program, with values that look like chance.
func (m *maker) allOf(p api.Prog) []asking {
	l := []asking{initOf(p)}
	for _, f := range p.Funs {
		l = append(l, callOf(p, f, m.argsFor(f.Params)), callOf(p, f, m.argsFor(f.Params)))
	}
	for _, h := range p.Hands {
		l = append(l, handOf(p, h, m.aValue(p.State, 4), m.aValue(h.Param.Type, 5)))
	}
	return l
}

// holds wants the three calls to tell what the second reading says, with fuel enough, just enough, and less; and is what they tell.
func (a asking) holds(t *testing.T, m *maker, p api.Prog) answer {
	t.Helper()
	got, want := a.ask(api.MaxFuel), a.want(api.MaxFuel)
	if !reflect.DeepEqual(got, want) {
		t.Fatalf("%s: %s was told, want %s", short(p), short(got), short(want))
	}
	if got.err != api.OK {
		return got
	}
	if deep(got.v) <= api.MaxDeep && !value.Of(m.all, got.v, a.of) {
		t.Fatalf("%s: %s was told, which is not of %s", short(p), short(got.v), short(a.of))
	}
	steps := got.cost.Steps
	for _, fuel := range []int{steps, pick(m.sower, steps+1, 2*steps, api.MaxFuel+1, math.MaxInt)} {
		if again := a.ask(fuel); !reflect.DeepEqual(again, got) {
			t.Fatalf("%s: of %d steps %s was told with the fuel %d", short(p), steps, short(again), fuel)
		}
	}
	for _, fuel := range []int{steps - 1, pick(m.sower, steps/2, m.below(steps), 0, -1, math.MinInt)} {
		if again := a.ask(fuel); !reflect.DeepEqual(again, failed(api.ErrFuel)) {
			t.Fatalf("%s: of %d steps %s was told with the fuel %d", short(p), steps, short(again), fuel)
		}
	}
	return got
}

// P12.2, P12.3, P12.4, P12.5: programs that look like chance
func TestManyPrograms(t *testing.T) {
	s := sower(88172645463325252)
	m := newMaker(t, &s)
	seen, great, dear := 0, 0, 0
	for range 400 {
		p := m.prog()
		if f := halt.Check(p); f != (api.Fault{}) {
			t.Fatalf("%s has the fault %v", short(p), f)
		}
		for _, a := range m.allOf(p) {
			got := a.holds(t, m, p)
			seen++
			if value.Size(got.v, 20) > 10 {
				great++
			}
			if got.cost.Steps > 500 {
				dear++
			}
		}
	}
	if seen < 2000 || great < 200 || dear < 300 {
		t.Errorf("%d were asked, %d told something great, %d were dear: too few", seen, great, dear)
	}
}
