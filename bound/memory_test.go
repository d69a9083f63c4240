package bound_test

import (
	"reflect"
	"slices"
	"sync"
	"testing"

	"handloom/api"
	"handloom/bound"
)

// room is memory that a list has: where it begins, and where it ends.
type room struct{ from, to uintptr }

// rooms is that of all lists in something.
func rooms(v reflect.Value, l []room) []room {
	switch v.Kind() {
	case reflect.Struct:
		for i := range v.NumField() {
			l = rooms(v.Field(i), l)
		}
	case reflect.Slice:
		if size := uintptr(v.Cap()) * v.Type().Elem().Size(); size > 0 {
			l = append(l, room{v.Pointer(), v.Pointer() + size})
		}
		for i := range v.Len() {
			l = rooms(v.Index(i), l)
		}
	}
	return l
}

// apart wants no two lists in some things to share memory.
func apart(t *testing.T, things ...any) {
	t.Helper()
	var l []room
	for _, it := range things {
		l = rooms(reflect.ValueOf(it), l)
	}
	slices.SortFunc(l, func(a, b room) int { return int(a.from) - int(b.from) })
	for i := range len(l) - 1 {
		if l[i].to > l[i+1].from {
			t.Fatalf("of %s two lists share memory", short(things))
		}
	}
}

// noEmpty wants all lists that have nothing to be none.
func noEmpty(t *testing.T, v reflect.Value) {
	t.Helper()
	switch v.Kind() {
	case reflect.Struct:
		for i := range v.NumField() {
			noEmpty(t, v.Field(i))
		}
	case reflect.Slice:
		if v.Len() == 0 && !v.IsNil() {
			t.Fatal("an empty list was told")
		}
		for i := range v.Len() {
			noEmpty(t, v.Index(i))
		}
	}
}

// given is what the three calls may be given.
type given struct {
	p     api.Prog
	all   []api.Data
	of    api.Type
	b     api.Bound
	sizes []api.Poly
}

// all are such of all sorts, right ones and others, with empty lists, too.
func all(t *testing.T) []given {
	s := sower(88172645463325252)
	m := newMaker(t, &s)
	m.wild = 6
	none := api.Poly{}
	l := []given{
		{}, {p: api.Prog{Datas: []api.Data{}, Funs: []api.Fun{{Params: []api.Param{}}}, Hands: []api.Hand{}}, all: []api.Data{}, b: api.Bound{Size: none, Words: none, Steps: none, Peak: none}, sizes: []api.Poly{}},
		{p: api.Prog{Queue: 1, Datas: []api.Data{}, Funs: []api.Fun{}, Hands: []api.Hand{}}, b: bounds("a", "a", "a", "1"), sizes: []api.Poly{none}},
		{p: prog(t, house+"fun f (l : list, m : list) : list = l fun g (l : list, m : list) : list = if True then l else m fun h (l : list) : list = g(l, l) queue 1 state list cap 9 = Nil on h (l : list cap 9) = (state, Done) on i (l : list cap 9) = (l, Done)"), b: bounds("a", "b", "a", "b"), sizes: sums("b", "a")},
	}
	for range 300 {
		g := given{p: numbered(m.prog()), all: m.all, of: m.aType(), b: api.Bound{Size: s.aSum(3, 3), Words: s.aSum(3, 4), Steps: s.aSum(4, 3), Peak: s.aSum(2, 12)}}
		g.sizes = some(s.below(14), func() api.Poly { return s.aSum(2, 12) })
		l = append(l, g, given{s.anyProg(), some(3, s.anyData), s.anyType(3), api.Bound{Size: s.anySum(), Words: s.anySum()}, some(s.below(4), s.anySum)})
	}
	return l
}

// told is what the three calls tell.
type told struct {
	bounds api.Bounds
	fault  api.Fault
	flat   bool
	call   called
}

func (g given) ask() told {
	a := told{flat: bound.Flat(g.all, g.of), call: asked(bound.Call(g.b, g.sizes))}
	a.bounds, a.fault = bound.Of(g.p)
	return a
}

// roomy is the same with room behind it, in which something stands.
func roomy[T any](l []T, behind ...T) []T {
	return append(append(make([]T, 0, len(l)+len(behind)), l...), behind...)[:len(l)]
}

// 0.5: what is given is not changed, nor what lies behind it
func TestNothingIsChanged(t *testing.T) {
	rest := sum("7 + 8 l + 9 a")
	for _, g := range all(t) {
		g.p.Funs, g.p.Init.Kids, g.p.Hands = roomy(g.p.Funs, api.Fun{}), roomy(g.p.Init.Kids, num(7)), roomy(g.p.Hands, api.Hand{})
		g.b.Size, g.b.Steps = roomy(g.b.Size, rest...), roomy(g.b.Steps, rest...)
		for i, p := range g.sizes {
			g.sizes[i] = roomy(p, rest...)
		}
		g.sizes = roomy(g.sizes, rest, rest)
		whole := func() []any {
			w := []any{g.p.Funs[:cap(g.p.Funs)], g.p.Init.Kids[:cap(g.p.Init.Kids)], g.p.Hands[:cap(g.p.Hands)], g.sizes[:cap(g.sizes)]}
			for _, p := range append([]api.Poly{g.b.Size, g.b.Steps}, g.sizes...) {
				w = append(w, p[:cap(p)])
			}
			return w
		}
		was := given{twin(g.p), twin(g.all), twin(g.of), twin(g.b), twin(g.sizes)}
		var around []any
		for _, it := range whole() {
			around = append(around, twinOf(it))
		}
		g.ask()
		if !reflect.DeepEqual(g, was) || !reflect.DeepEqual(whole(), around) {
			t.Fatalf("%s was changed to %s", short(was), short(g))
		}
	}
}

// twinOf is a twin of what is held as anything.
func twinOf(it any) any {
	out := reflect.New(reflect.TypeOf(it)).Elem()
	copyPart(out, reflect.ValueOf(it))
	return out.Interface()
}

// 0.5: what is told is new memory, and no two of its lists share any; 0.7: an empty list is none
func TestAnswersShareNothing(t *testing.T) {
	terms := 0
	for _, g := range all(t) {
		// what is given may share memory within itself
		g = given{twin(g.p), twin(g.all), twin(g.of), twin(g.b), twin(g.sizes)}
		first := g.ask()
		was := told{twin(first.bounds), first.fault, first.flat, called{twin(first.call.b), first.call.err}}
		second := g.ask()
		if !reflect.DeepEqual(first, was) || !reflect.DeepEqual(second, was) {
			t.Fatalf("%s and then %s was told", short(was), short(second))
		}
		noEmpty(t, reflect.ValueOf(first.bounds))
		if first.call.err == api.OK {
			noEmpty(t, reflect.ValueOf(first.call.b))
		}
		terms += len(rooms(reflect.ValueOf(first.bounds), nil))
		apart(t, g.p, g.all, g.b, g.sizes, first.bounds, first.call.b, second.bounds, second.call.b)
	}
	if terms < 2000 {
		t.Errorf("%d lists were told: too few", terms)
	}
}

// 0.5: what is done with what was given, or told, is not to be seen in what is told
func TestLaterChanges(t *testing.T) {
	p := prog(t, house+"fun f (l : list) : list = Cons(1, l) fun g (l : list) : list = f(f(l))"+start)
	got, _ := bound.Of(p)
	was := twin(got)
	p.Funs[0].Body.Kids[1] = conOf("Nil")
	if again, _ := bound.Of(p); !reflect.DeepEqual(got, was) || reflect.DeepEqual(again, was) {
		t.Errorf("%s was told, then %s", short(was), short(got))
	}
	p.Funs[0].Body.Kids[1] = variable("l")
	for _, b := range got.Funs {
		b.Size[0].Coef, b.Steps[0].Coef = 99, 99
	}
	if again, _ := bound.Of(p); !reflect.DeepEqual(again, was) {
		t.Errorf("%s was told, then %s", short(was), short(again))
	}
	b, sizes := bounds("a", "2 a", "3", "1 + a"), sums("5 + b")
	told, _ := bound.Call(b, sizes)
	b.Steps[0].Coef, sizes[0][0].Coef = 99, 99
	wants(t, "Call", told, bounds("5 + b", "10 + 2 b", "3", "6 + b"))
}

// 0.5: what is told hangs on what is given alone: the same is told again, in any order, and of several calls at a time
func TestTheSameIsTold(t *testing.T) {
	l := all(t)
	var first []told
	for _, g := range l {
		first = append(first, g.ask())
	}
	for at := len(l) - 1; at >= 0; at-- {
		if got := l[at].ask(); !reflect.DeepEqual(got, first[at]) {
			t.Fatalf("%s and then %s was told", short(first[at]), short(got))
		}
	}
	again := make([]told, len(l))
	var all sync.WaitGroup
	for at := range l {
		all.Go(func() { again[at] = l[at].ask() })
	}
	all.Wait()
	if !reflect.DeepEqual(again, first) {
		t.Error("at a time something else was told")
	}
}
