package bound_test

import (
	"math"
	"reflect"
	"slices"

	"handloom/api"
)

// sower gives numbers that look like chance, the same ones each time.
type sower uint64

func (s *sower) below(n int) int {
	x := uint64(*s)
	x ^= x << 13
	x ^= x >> 7
	x ^= x << 17
	*s = sower(x)
	return int(x>>11) % n
}

func pick[T any](s *sower, l ...T) T { return l[s.below(len(l))] }

func some[T any](count int, make func() T) []T {
	var l []T
	for range count {
		l = append(l, make())
	}
	return l
}

func (s *sower) bytes(most int) []byte {
	return some(s.below(most+1), func() byte { return byte(s.below(256)) })
}

// aSum is one that is fit, of at most so many terms.
func (s *sower) aSum(terms, unknowns int) api.Poly {
	l := some(s.below(terms+1), func() api.Term {
		t := api.Term{Coef: pick(s, 1, 2, 5, int64(s.below(1000))+1, int64(s.below(1<<40))+1, api.MaxCoef)}
		for range s.below(3) {
			t.Exps[s.below(unknowns)] = uint8(pick(s, 0, 1, 1, 2, 6))
		}
		return t
	})
	slices.SortFunc(l, func(a, b api.Term) int { return slices.Compare(a.Exps[:], b.Exps[:]) })
	return slices.CompactFunc(l, func(a, b api.Term) bool { return a.Exps == b.Exps })
}

// anySum is of any form: next to none is fit.
func (s *sower) anySum() api.Poly {
	if s.below(3) == 0 {
		return s.aSum(6, 12)
	}
	return some(pick(s, s.below(4), s.below(80)), func() api.Term {
		t := api.Term{Coef: pick[int64](s, 0, 1, -1, 7, math.MinInt64, math.MaxInt64, api.MaxCoef+1, 1<<62)}
		t.Exps[s.below(api.NumVars)] = pick[uint8](s, 0, 1, 6, 7, 128, 255)
		return t
	})
}

func (s *sower) aWord() string { return pick(s, "x", "f", "Nil", "Cons", "True", "state", "") }

func (s *sower) anyPat(depth int) api.Pat {
	p := api.Pat{Kind: s.below(7) - 1, Num: int64(s.below(2)), Name: s.aWord()}
	if depth > 1 {
		p.Kids = some(s.below(3), func() api.Pat { return s.anyPat(depth - 1) })
	}
	return p
}

func (s *sower) anyExpr(depth int) api.Expr {
	e := api.Expr{Kind: s.below(13) - 1, Num: int64(s.below(13)), Name: s.aWord()}
	if depth > 1 {
		e.Kids = some(s.below(4), func() api.Expr { return s.anyExpr(depth - 1) })
		e.Arms = some(s.below(3), func() api.Arm { return arm(s.anyPat(2), s.anyExpr(depth-1)) })
	}
	return e
}

// anyType is of any form.
func (s *sower) anyType(depth int) api.Type {
	t := api.Type{Kind: s.below(6) - 1, Name: s.aWord()}
	if depth > 1 {
		t.Parts = some(s.below(3), func() api.Type { return s.anyType(depth - 1) })
	}
	return t
}

func (s *sower) anyParam() api.Param { return api.Param{Name: s.aWord(), Type: s.anyType(2)} }

func (s *sower) anyData() api.Data {
	return api.Data{Name: s.aWord(), Cons: some(s.below(3), func() api.Con {
		return api.Con{Name: s.aWord(), Fields: some(s.below(2), func() api.Type { return s.anyType(2) })}
	})}
}

// anyProg is of any form: next to none is fit.
func (s *sower) anyProg() api.Prog {
	return api.Prog{
		Queue: s.below(3), Timers: s.below(2), State: s.anyType(2), Init: s.anyExpr(3),
		Datas: some(s.below(2), s.anyData),
		Funs: some(s.below(3), func() api.Fun {
			return api.Fun{Name: s.aWord(), Params: some(s.below(3), s.anyParam), Result: s.anyType(1), Body: s.anyExpr(3)}
		}),
		Hands: some(s.below(3), func() api.Hand { return api.Hand{Name: s.aWord(), Param: s.anyParam(), Body: s.anyExpr(3)} }),
	}
}

// changes tells each thing that differs from one in one field alone.
func changes[T any](it T, tell func(changed T)) {
	v := reflect.New(reflect.TypeOf(it)).Elem()
	v.Set(reflect.ValueOf(twin(it)))
	changeField(v, func() { tell(v.Interface().(T)) })
}

func changeField(v reflect.Value, tell func()) {
	old := reflect.New(v.Type()).Elem()
	old.Set(v)
	for _, n := range others(old) {
		v.Set(n)
		tell()
	}
	v.Set(old)
	switch v.Kind() {
	case reflect.Struct:
		for i := range v.NumField() {
			changeField(v.Field(i), tell)
		}
	case reflect.Slice:
		for i := range v.Len() {
			changeField(v.Index(i), tell)
		}
	}
}

// others is what may stand for a number, a byte, a name, or a list; of structs none: their fields have others.
func others(old reflect.Value) []reflect.Value {
	var l []reflect.Value
	switch old.Kind() {
	case reflect.Struct:
	case reflect.Slice:
		l = otherLists(old)
	case reflect.String:
		for _, s := range []string{"", "f", "g", "l", "m", "n", "r", "x", "y", "state", "Nil", "Cons", "list", "True", "bool", "\xff"} {
			l = append(l, reflect.ValueOf(s))
		}
	case reflect.Uint8:
		l = append(l, reflect.ValueOf(uint8(old.Uint()+1)))
	default:
		for _, n := range []int64{0, 1, 2, 3, 4, 5, 6, 7, 8, 9, 10, 11, 64, 1000, 1 << 62, math.MaxInt64, -1, -1 << 62, math.MinInt64} {
			l = append(l, reflect.ValueOf(n).Convert(old.Type()))
		}
	}
	return l
}

// otherLists is none, one without the last part, with the first part last, with the last part twice, and with a zero part more.
func otherLists(old reflect.Value) []reflect.Value {
	copied := func() reflect.Value { return reflect.AppendSlice(reflect.MakeSlice(old.Type(), 0, 0), old) }
	l := []reflect.Value{reflect.Zero(old.Type()), reflect.Append(copied(), reflect.Zero(old.Type().Elem()))}
	if n := old.Len(); n > 0 {
		l = append(l, old.Slice3(0, n-1, n-1), reflect.AppendSlice(copied().Slice(1, n), old.Slice(0, 1)), reflect.Append(copied(), old.Index(n-1)))
	}
	return l
}
