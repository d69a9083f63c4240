package ast_test

import (
	"math"
	"reflect"
	"strings"

	"handloom/api"
)

// sower gives numbers that look like chance, the same ones each time.
type sower uint64

func (s *sower) below(n int) int {
	x := uint64(*s)
	x ^= x << 13
	x ^= x >> 7
	x ^= x << 17
	*s = sower(x)
	return int(x>>11) % n
}

func pick[T any](s *sower, l []T) T { return l[s.below(len(l))] }

func some[T any](count int, make func() T) []T {
	var l []T
	for range count {
		l = append(l, make())
	}
	return l
}

func (s *sower) small() string { return pick(s, []string{"x", "y", "z", "é", "xs", "a_1", "list"}) }

func (s *sower) great() string { return pick(s, []string{"Nil", "Cons", "A", "Bé_2"}) }

func (s *sower) place() api.Pos { return api.Pos{Line: 1 + s.below(9), Col: 1 + s.below(9)} }

func (s *sower) number() int64 {
	return pick(s, []int64{0, 1, -1, 7, -300, most, -most, 1 << 40})
}

// aType is fit, and at most so deep.
func (s *sower) aType(depth int) api.Type {
	switch kind := s.below(5); {
	case kind == 0:
		return api.Type{Kind: api.TyBytes}
	case kind == 1:
		return api.Type{Kind: api.TyData, Name: s.small()}
	case kind < 4 && depth > 1:
		return api.Type{Kind: api.TyTuple, Parts: some(2+s.below(3), func() api.Type { return s.aType(depth - 1) })}
	}
	return api.Type{Kind: api.TyInt}
}

// aPat is fit, and at most so deep.
func (s *sower) aPat(depth int) api.Pat {
	p := api.Pat{At: s.place(), Kind: s.below(5)}
	kids := func(count int) []api.Pat { return some(count, func() api.Pat { return s.aPat(depth - 1) }) }
	if depth == 1 && p.Kind > api.PtInt {
		p.Kind = api.PtVar
	}
	switch p.Kind {
	case api.PtVar:
		p.Name = s.small()
	case api.PtInt:
		p.Num = s.number()
	case api.PtCon:
		p.Name, p.Kids = s.great(), kids(s.below(3))
	case api.PtTuple:
		p.Kids = kids(2 + s.below(2))
	}
	return p
}

// anExpr is fit, and at most so deep.
func (s *sower) anExpr(depth int) api.Expr {
	e := api.Expr{At: s.place(), Kind: s.below(11)}
	kids := func(count int) []api.Expr { return some(count, func() api.Expr { return s.anExpr(depth - 1) }) }
	if depth == 1 && e.Kind > api.ExVar {
		e.Kind = s.below(3)
	}
	switch e.Kind {
	case api.ExInt:
		e.Num = s.number()
	case api.ExBytes:
		e.Bytes = []byte("a\n\xff\x00bcdef")[:s.below(9)]
	case api.ExVar:
		e.Name = pick(s, []string{"state", s.small()})
	case api.ExCon:
		e.Name, e.Kids = s.great(), kids(s.below(3))
	case api.ExTuple:
		e.Kids = kids(2 + s.below(2))
	case api.ExCall:
		e.Name, e.Kids = s.small(), kids(1+s.below(3))
	case api.ExLet:
		e.Name, e.Kids = s.small(), kids(2)
	case api.ExIf:
		e.Kids = kids(3)
	case api.ExMatch:
		arm := func() api.Arm { return api.Arm{Pat: s.aPat(min(depth-1, 3)), Body: s.anExpr(depth - 1)} }
		e.Kids, e.Arms = kids(1), some(1+s.below(3), arm)
	case api.ExOp:
		e.Num = int64(s.below(api.NumOps))
		e.Kids = kids(map[int64]int{api.OpLen: 1, api.OpCut: 3}[e.Num])
		if e.Kids == nil {
			e.Kids = kids(2)
		}
	case api.ExFor:
		e.Num, e.Name, e.Kids = int64(s.below(1001)), s.small(), kids(2)
	}
	return e
}

func (s *sower) param() api.Param { return api.Param{Name: s.small(), Type: s.aType(3)} }

func (s *sower) data() api.Data {
	con := func() api.Con {
		return api.Con{Name: s.great(), Fields: some(s.below(3), func() api.Type { return s.aType(3) })}
	}
	return api.Data{At: s.place(), Name: s.small(), Cons: some(1+s.below(3), con)}
}

func (s *sower) fun(depth int) api.Fun {
	return api.Fun{At: s.place(), Name: s.small(), Params: some(1+s.below(3), s.param), Result: s.aType(3), Body: s.anExpr(depth)}
}

func (s *sower) hand(depth int) api.Hand {
	return api.Hand{At: s.place(), Name: s.small(), Param: s.param(), Cap: s.below(65), Body: s.anExpr(depth)}
}

// aProg is fit, its expressions at most so deep.
func (s *sower) aProg(depth int) api.Prog {
	return api.Prog{
		Datas: some(s.below(3), s.data), Funs: some(s.below(3), func() api.Fun { return s.fun(depth) }),
		Queue: 1 + s.below(32), Timers: s.below(33), State: s.aType(3), Cap: s.below(257), Init: s.anExpr(depth),
		Hands: some(s.below(3), func() api.Hand { return s.hand(depth) }),
	}
}

// edgeNumbers are those at which a field may begin, or cease, to be right.
func edgeNumbers() []int64 {
	return []int64{
		0, 1, 2, 3, 4, 5, 7, 8, 9, 10, 11, 12, 32, 33, 64, 65, 256, 257, 1000, 1001, most, most + 1, math.MaxInt64,
		-1, -2, -1000, -most, -most - 1, math.MinInt64,
	}
}

// edgeNames are names of both kinds, those that may stand in some places alone, and what is none.
func edgeNames() []string {
	l := []string{
		"", "x", "X", "int", "bytes", "len", "at", "cat", "cut", "bool", "act", "alarm", "ints", "Int", "State", "State1", "statex",
		"é", "É", "x_9é", "X_9é", "_", "_x", "9", "9x", "x y", " x", "x ", "x\n", "x#", "#", "x.", "x-", "(x)", "\"x\"", "~1",
		"\xff", "x\xff", "X\xff", "\xed\xa0\x80", "\x00", "x\x00", "\u2028", "\U0010ffff",
		strings.Repeat("a", 24), strings.Repeat("a", 25), "A" + strings.Repeat("b", 23), "A" + strings.Repeat("b", 24),
		strings.Repeat("\U0001f600", 24), strings.Repeat("\U0001f600", 25), "A" + strings.Repeat("\u20ac", 24),
		strings.Repeat("a", 96), strings.Repeat("a", 97), strings.Repeat("a", 1<<15),
	}
	return append(l, languageWords()...)
}

// changes tells each tree that differs from one in one field alone, and which field; what is told is laid back behind each.
func changes[T any](tree T, tell func(changed T, field string)) {
	v := reflect.New(reflect.TypeOf(tree)).Elem()
	v.Set(reflect.ValueOf(twin(tree)))
	changeField(v, "", func(field string) { tell(v.Interface().(T), field) })
}

func changeField(v reflect.Value, field string, tell func(field string)) {
	old := reflect.New(v.Type()).Elem()
	old.Set(v)
	for _, n := range others(old) {
		v.Set(n)
		tell(field)
	}
	v.Set(old)
	switch v.Kind() {
	case reflect.Struct:
		for i := range v.NumField() {
			changeField(v.Field(i), v.Type().Name()+"."+v.Type().Field(i).Name, tell)
		}
	case reflect.Slice:
		for i := range v.Len() {
			changeField(v.Index(i), field+"[]", tell)
		}
	}
}

// others is what may stand for a number, a name, or a list; of structs none: their fields have others.
func others(old reflect.Value) []reflect.Value {
	var l []reflect.Value
	switch old.Kind() {
	case reflect.Struct:
	case reflect.Slice:
		l = otherLists(old)
	case reflect.String:
		for _, s := range edgeNames() {
			l = append(l, reflect.ValueOf(s))
		}
	default:
		at := numberOf(old)
		for _, n := range append(edgeNumbers(), at-1, at+1) {
			l = append(l, reflect.ValueOf(n).Convert(old.Type()))
		}
	}
	return l
}

func numberOf(v reflect.Value) int64 {
	if v.CanUint() {
		return int64(v.Uint())
	}
	return v.Int()
}

// otherLists is none, an empty one, one without the last part, with the first part last, with a part twice, with a zero part more, and with many.
func otherLists(old reflect.Value) []reflect.Value {
	zero := reflect.Zero(old.Type().Elem())
	more := func(count int) reflect.Value {
		l := reflect.AppendSlice(reflect.MakeSlice(old.Type(), 0, 0), old)
		for range count {
			l = reflect.Append(l, zero)
		}
		return l
	}
	l := []reflect.Value{reflect.Zero(old.Type()), reflect.MakeSlice(old.Type(), 0, 0), more(1), more(65)}
	if n := old.Len(); n > 0 {
		l = append(l, old.Slice3(0, n-1, n-1), reflect.AppendSlice(more(0).Slice(1, n), old.Slice(0, 1)), reflect.Append(more(0), old.Index(n-1)))
	}
	return l
}
