package eval_test

import (
	"reflect"
	"slices"
	"sync"
	"testing"

	"handloom/api"
	"handloom/eval"
	"handloom/value"
)

// many is how many parts an argument may have.
const many = 1 << 16

// room is memory that a list has: where it begins, and where it ends.
type room struct{ from, to uintptr }

// rooms is that of all lists in something.
func rooms(v reflect.Value, l []room) []room {
	switch v.Kind() {
	case reflect.Struct:
		for i := range v.NumField() {
			l = rooms(v.Field(i), l)
		}
	case reflect.Slice:
		if size := uintptr(v.Cap()) * v.Type().Elem().Size(); size > 0 {
			l = append(l, room{v.Pointer(), v.Pointer() + size})
		}
		for i := range v.Len() {
			l = rooms(v.Index(i), l)
		}
	}
	return l
}

// apart wants no two lists in some things to share memory.
func apart(t *testing.T, things ...any) {
	t.Helper()
	var l []room
	for _, it := range things {
		l = rooms(reflect.ValueOf(it), l)
	}
	slices.SortFunc(l, func(a, b room) int { return int(a.from) - int(b.from) })
	for i := range len(l) - 1 {
		if l[i].to > l[i+1].from {
			t.Fatalf("of %s two lists share memory", short(things))
		}
	}
}

// given is what the four calls may be given.
type given struct {
	p        api.Prog
	fun      string
	args     []api.Value
	hand     string
	state, v api.Value
	fuel     int
	op       int64
}

// all are such of all sorts, right ones and others, with empty lists, too.
func all(t *testing.T) []given {
	s := sower(521288629)
	m := newMaker(t, &s)
	empty := api.Value{Kind: api.VaCon, Name: "Nil", Bytes: []byte{}, Kids: []api.Value{}}
	l := []given{{}, {p: api.Prog{Datas: []api.Data{}, Funs: []api.Fun{{Params: []api.Param{}}}, Hands: []api.Hand{}}, args: []api.Value{}, state: empty, v: empty}}
	p := prog(t, house+"fun f (l : list, b : bytes) : ((list * list) * (bytes * bytes)) = ((l, l), (b, b)) queue 1 state list cap 9 = Nil on h (l : list cap 9) = (let x = (state, l) in match x with (a, b) -> a end, Done)")
	l = append(l, given{p, "f", []api.Value{empty, {Kind: api.VaBytes, Bytes: []byte{}, Kids: []api.Value{}}}, "h", empty, empty, api.MaxFuel, 0})
	for range 150 {
		g := given{p: m.prog(), fuel: pick(&s, 20, 200, api.MaxFuel, api.MaxFuel, api.MaxFuel, api.MaxFuel), op: int64(s.below(api.NumOps))}
		f := pick(&s, g.p.Funs...)
		g.fun, g.args = f.Name, m.argsFor(f.Params)
		if len(g.p.Hands) > 0 {
			h := pick(&s, g.p.Hands...)
			g.hand, g.state, g.v = h.Name, m.aValue(g.p.State, 4), m.aValue(h.Param.Type, 4)
		}
		if s.below(8) == 0 {
			g.args, g.v = append(g.args, numVal(1)), s.anyValue(3)
		}
		l = append(l, g, given{s.anyProg(), s.aWord(), some(s.below(4), func() api.Value { return s.anyValue(3) }), s.aWord(), s.anyValue(3), s.anyValue(3), s.below(100), int64(s.below(14) - 1)})
	}
	return l
}

// told is what the four calls tell.
type told struct {
	call, init, hand answer
	do               api.Value
	ok               bool
}

func (g given) ask() told {
	a := told{
		call: answered(eval.Call(g.p, g.fun, g.args, g.fuel)),
		init: answered(eval.Init(g.p, g.fuel)),
		hand: answered(eval.Hand(g.p, g.hand, g.state, g.v, g.fuel)),
	}
	a.do, a.ok = eval.Do(g.op, g.args)
	return a
}

func (a told) values() []api.Value { return []api.Value{a.call.v, a.init.v, a.hand.v, a.do} }

// 0.5: what is given is not changed, nor what lies behind it
func TestNothingIsChanged(t *testing.T) {
	for _, g := range all(t) {
		g.p.Funs = append(make([]api.Fun, 0, len(g.p.Funs)+3), g.p.Funs...)
		g.args = append(make([]api.Value, 0, len(g.args)+3), g.args...)
		g.v.Kids = append(make([]api.Value, 0, len(g.v.Kids)+3), g.v.Kids...)
		funs, args, kids := g.p.Funs[:cap(g.p.Funs)], g.args[:cap(g.args)], g.v.Kids[:cap(g.v.Kids)]
		was, wasFuns, wasArgs, wasKids := twin(funs), twin(funs), twin(args), twin(kids)
		wasGiven := given{twin(g.p), g.fun, twin(g.args), g.hand, twin(g.state), twin(g.v), g.fuel, g.op}
		g.ask()
		if !reflect.DeepEqual(g, wasGiven) || !reflect.DeepEqual(funs, wasFuns) || !reflect.DeepEqual(args, wasArgs) || !reflect.DeepEqual(kids, wasKids) {
			t.Fatalf("%s was changed to %s", short(was), short(g))
		}
	}
}

// 0.5: what is told is new memory, and no two of its lists share any; 0.7: an empty list is none
func TestAnswersShareNothing(t *testing.T) {
	parts := 0
	for _, g := range all(t) {
		// what is given may share memory within itself
		g = given{twin(g.p), g.fun, twin(g.args), g.hand, twin(g.state), twin(g.v), g.fuel, g.op}
		first, second := g.ask(), g.ask()
		if !reflect.DeepEqual(first, second) {
			t.Fatalf("%s and then %s was told", short(first), short(second))
		}
		for _, v := range first.values() {
			if !reflect.DeepEqual(v, trim(v)) {
				t.Fatalf("%s has an empty list", short(v))
			}
			parts += len(v.Kids)
		}
		apart(t, g.p, g.args, g.state, g.v, first.values(), second.values())
	}
	if parts < 200 {
		t.Errorf("%d parts were told: too few", parts)
	}
}

// 0.5: what is done with what was given, or told, is not to be seen in what is told
func TestLaterChanges(t *testing.T) {
	p := prog(t, house+"fun f (n : note) : (note * note) = (n, Note(\"xyz\", n)) queue 1 state note cap 9 = Note(\"abc\", Blank)")
	args := vals(t, `Note("abc", Note("def", Blank))`)
	got, _, _ := eval.Call(p, "f", args, api.MaxFuel)
	state, _, _ := eval.Init(p, api.MaxFuel)
	const want, first = `( Note ( "abc" , Note ( "def" , Blank ) ) , Note ( "xyz" , Note ( "abc" , Note ( "def" , Blank ) ) ) )`, `Note ( "abc" , Blank )`
	args[0].Kids[0].Bytes[0] = 'X'
	args[0].Kids[1].Kids[0].Bytes[0] = 'X'
	p.Funs[0].Body.Kids[1].Kids[0].Bytes[0] = 'X'
	p.Init.Kids[0].Bytes[0] = 'X'
	if value.Text(got) != want || value.Text(state) != first {
		t.Errorf("%s and %s were told", value.Text(got), value.Text(state))
	}
	got.Kids[0].Kids[0].Bytes[0] = 'Y'
	got.Kids[0].Kids[1] = numVal(1)
	if value.Text(got.Kids[1]) != `Note ( "xyz" , Note ( "abc" , Note ( "def" , Blank ) ) )` {
		t.Errorf("%s is left", value.Text(got.Kids[1]))
	}
	state.Kids[0].Bytes[0] = 'Y'
	if again, _, _ := eval.Init(p, api.MaxFuel); value.Text(again) != `Note ( "Xbc" , Blank )` {
		t.Errorf("then %s was told", value.Text(again))
	}
}

// 0.5: what is told hangs on what is given alone: the same is told again, in any order, and of several calls at a time
func TestTheSameIsTold(t *testing.T) {
	l := all(t)
	var first []told
	for _, g := range l {
		first = append(first, g.ask())
	}
	for at := len(l) - 1; at >= 0; at-- {
		if got := l[at].ask(); !reflect.DeepEqual(got, first[at]) {
			t.Fatalf("%s and then %s was told", short(first[at]), short(got))
		}
	}
	again := make([]told, len(l))
	var all sync.WaitGroup
	for at := range l {
		all.Go(func() { again[at] = l[at].ask() })
	}
	all.Wait()
	if !reflect.DeepEqual(again, first) {
		t.Error("at a time something else was told")
	}
}
