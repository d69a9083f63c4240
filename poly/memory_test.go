package poly_test

import (
	"reflect"
	"slices"
	"sync"
	"testing"

	"handloom/api"
	"handloom/poly"
)

// many is how many parts an argument may have.
const many = 1 << 16

// given is what the calls may be given.
type given struct {
	a, b api.Poly
	l    []api.Poly
	m    []int64
	n    int64
	k    int
}

// told is what they tell.
type told struct {
	num, unknown, sum, product, greater, put answer
	at                                       number
	split                                    parted
	has, fit                                 bool
}

func (g given) ask() told {
	return told{
		num: answered(poly.Num(g.n)), unknown: answered(poly.Var(g.k)),
		sum: answered(poly.Add(g.a, g.b)), product: answered(poly.Mul(g.a, g.b)), greater: answered(poly.Max(g.a, g.b)),
		put: answered(poly.Put(g.a, g.l)), at: numbered(poly.At(g.a, g.m)), split: split(poly.Split(g.a, g.k)),
		has: poly.Has(g.a, g.k), fit: poly.Fit(g.a),
	}
}

func (a told) answers() []answer {
	return []answer{a.num, a.unknown, a.sum, a.product, a.greater, a.put, {a.split.rest, api.OK}}
}

// all are such of all sorts, fit ones and others, with empty lists, too.
func all() []given {
	s := sower(521288629)
	one, none := sum("1"), api.Poly{}
	l := []given{
		{}, {a: none, b: none, l: []api.Poly{}, m: []int64{}}, {a: none, b: none, l: []api.Poly{none, nil}, k: 12}, {a: one, b: none, l: []api.Poly{none}}, {a: none, b: one},
		{a: sum("a"), b: one, l: []api.Poly{sum("1 + b"), one}}, {a: one, b: sum("2 + a"), n: 1}, {b: sum("2 + a")}, {a: sum("2 + a")}, {a: sum("a"), b: none, l: []api.Poly{none, none}}, {a: sum("a^2"), k: 0}, {a: sum("2 + a"), k: -1}, {a: sum("2 + a"), k: 3},
	}
	for range 1000 {
		g := given{a: s.aSum(s.aSize()), b: s.aSum(s.aSize()), n: s.anyNumber(), k: s.below(14) - 1, m: some(s.below(14), s.anyNumber)}
		g.l = some(s.below(14), func() api.Poly { return s.aSum(size{2, 3, 2, 10}) })
		if s.below(4) == 0 {
			g.a, g.b, g.l = s.anySum(), s.anySum(), some(s.below(14), s.anySum)
		}
		l = append(l, g)
	}
	return l
}

// roomy is the same with room behind it, in which something stands.
func roomy[T any](l []T, behind ...T) []T {
	return append(append(make([]T, 0, len(l)+len(behind)), l...), behind...)[:len(l)]
}

// 0.5: what is given is not changed, nor what lies behind it
func TestNothingIsChanged(t *testing.T) {
	rest := sum("7 + 8 l + 9 a")
	for _, g := range all() {
		g.a, g.b, g.m = roomy(g.a, rest...), roomy(g.b, rest...), roomy(g.m, 5, 6, 7)
		for i, p := range g.l {
			g.l[i] = roomy(p, rest...)
		}
		g.l = roomy(g.l, rest, rest)
		whole := func() []any {
			w := []any{g.a[:cap(g.a)], g.b[:cap(g.b)], g.m[:cap(g.m)], g.l[:cap(g.l)]}
			for _, p := range g.l {
				w = append(w, p[:cap(p)])
			}
			return w
		}
		var was []any
		for _, it := range whole() {
			switch it := it.(type) {
			case api.Poly:
				was = append(was, twin(it))
			case []int64:
				was = append(was, twin(it))
			case []api.Poly:
				was = append(was, twin(it))
			}
		}
		g.ask()
		if !reflect.DeepEqual(whole(), was) {
			t.Fatalf("%s was changed to %s", short(was), short(whole()))
		}
	}
}

// 0.5: what is told is new memory, the same each time; 0.7: an empty list is none; 0.3: beside an error nothing is told
func TestAnswersAreNew(t *testing.T) {
	parts := 0
	for _, g := range all() {
		first := g.ask()
		was := twinTold(first)
		second := g.ask()
		if !reflect.DeepEqual(first, was) || !reflect.DeepEqual(second, was) {
			t.Fatalf("of %s %s and then %s was told", short(g), short(was), short(second))
		}
		for _, a := range first.answers() {
			if a.p != nil && len(a.p) == 0 || a.err != api.OK && a.p != nil {
				t.Fatalf("of %s %s was told", short(g), short(a))
			}
			parts += len(a.p)
		}
		spoil(t, first)
		if !reflect.DeepEqual(second, was) || !reflect.DeepEqual(g.ask(), was) {
			t.Fatalf("of %s something else was told, when what was told ahead was changed", short(g))
		}
		spoilGiven(g)
		if !reflect.DeepEqual(second, was) {
			t.Fatalf("of %s something else was told, when what was given was changed", short(g))
		}
	}
	if parts < 10000 {
		t.Errorf("%d parts were told: too few", parts)
	}
}

func twinTold(a told) told {
	for _, p := range []*api.Poly{&a.num.p, &a.unknown.p, &a.sum.p, &a.product.p, &a.greater.p, &a.put.p, &a.split.rest} {
		*p = twin(*p)
	}
	return a
}

// spoil changes all that was told, and what lies behind it, and sees that no two share memory.
func spoil(t *testing.T, a told) {
	t.Helper()
	for i, x := range a.answers() {
		for j := range x.p[:cap(x.p)] {
			x.p[:cap(x.p)][j] = api.Term{Coef: int64(-1 - i)}
		}
	}
	for i, x := range a.answers() {
		for _, y := range x.p[:cap(x.p)] {
			if y.Coef != int64(-1-i) {
				t.Fatalf("two answers share memory: %s", short(a))
			}
		}
	}
}

func spoilGiven(g given) {
	for _, p := range append(slices.Clone(g.l), g.a, g.b) {
		for j := range p[:cap(p)] {
			p[:cap(p)][j] = api.Term{Coef: -99}
		}
	}
}

// what is told does not hang on who asks beside it
func TestManyAsk(t *testing.T) {
	l := all()[:200]
	var want []told
	for _, g := range l {
		want = append(want, g.ask())
	}
	var group sync.WaitGroup
	for range 8 {
		group.Go(func() {
			for i, g := range l {
				if got := g.ask(); !reflect.DeepEqual(got, want[i]) {
					t.Errorf("of %s %s was told, want %s", short(g), short(got), short(want[i]))
				}
			}
		})
	}
	group.Wait()
}

// 0.1: every call ends, whatever it is given; 0.3: beside an error nothing is told
func TestAnyArguments(t *testing.T) {
	s := sower(314159265)
	for range 20000 {
		g := given{s.anySum(), s.anySum(), some(s.below(15), s.anySum), some(s.below(15), s.anyNumber), s.anyNumber(), pick(&s, s.below(20)-4, int(s.anyNumber()))}
		a := g.ask()
		for _, x := range a.answers() {
			if x.err != api.OK && x.p != nil {
				t.Fatalf("of %s %s was told", short(g), short(x))
			}
		}
		if a.at.err != api.OK && a.at.n != 0 || !a.split.ok && (a.split.times != 0 || a.split.rest != nil) {
			t.Fatalf("of %s %s was told", short(g), short(a))
		}
	}
	for _, p := range sums("3 + 5 l + 7 a", "1 + 2 l^6 + a b c", "a") {
		changes(p, func(q api.Poly) {
			given{q, p, []api.Poly{q, p}, []int64{1, 2}, 1, 0}.ask()
			given{p, q, []api.Poly{p, q}, []int64{1, 2}, 1, 11}.ask()
		})
	}
}

// 0.1: also with as many parts as may be; of lists the first NumVars count
func TestGreatArguments(t *testing.T) {
	terms := make(api.Poly, many)
	for i := range terms {
		terms[i].Coef = int64(i) + 1
		for k := range api.NumVars {
			terms[i].Exps[k] = 255
		}
	}
	ones := make(api.Poly, many)
	for i := range ones {
		ones[i].Coef = 1
	}
	l := make([]api.Poly, many)
	numbers := make([]int64, many)
	for i := range many {
		l[i], numbers[i] = sum("2"), 2
	}
	deep := []api.Poly{terms, ones, slices.Repeat(sum("2"), many), sum("2 a^255 b^255 c^255 d^255 e^255 f^255 g^255 h^255 i^255 j^255 k^255 l^255"), terms[:64], ones[:64]}
	for _, p := range deep {
		for _, q := range append(deep, nil, sum("1"), full(64)) {
			given{p, q, []api.Poly{q, p, q, p, q, p, q, p, q, p, q, p}, numbers, 1, 0}.ask()
			given{q, p, slices.Repeat([]api.Poly{q}, many), numbers, 1, 0}.ask()
			if poly.Fit(p) {
				t.Errorf("%s was told to be fit", short(p))
			}
		}
	}
	given{terms, terms, slices.Repeat([]api.Poly{sum("1")}, many), slices.Repeat([]int64{1}, many), 1, 0}.ask()
	wants(t, "Put", answered(poly.Put(sum("1 + l + a"), l)), right(sum("5")))
	wants(t, "At", numbered(poly.At(sum("1 + l + a"), numbers)), number{5, api.OK})
}
