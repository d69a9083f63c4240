package value_test

import (
	"math"
	"reflect"
	"slices"
	"strings"

	"handloom/api"
)

// sower gives numbers that look like chance, the same ones each time.
type sower uint64

func (s *sower) below(n int) int {
	x := uint64(*s)
	x ^= x << 13
	x ^= x >> 7
	x ^= x << 17
	*s = sower(x)
	return int(x>>11) % n
}

func pick[T any](s *sower, l []T) T { return l[s.below(len(l))] }

func some[T any](count int, make func() T) []T {
	var l []T
	for range count {
		l = append(l, make())
	}
	return l
}

func (s *sower) number() int64 {
	return pick(s, []int64{0, 1, -1, 7, -300, 1<<62 - 1, 1 - 1<<62, 1 << 40})
}

func (s *sower) bytes() []byte {
	return []byte("a\n\"\xff\x00\\ é" + strings.Repeat("b", 60))[:s.below(65)]
}

func (s *sower) great() string { return pick(s, []string{"Nil", "Cons", "A", "Bé_2"}) }

// fitValue can be written, and is at most so deep.
func (s *sower) fitValue(depth int) api.Value {
	kids := func(count int) []api.Value {
		return some(count, func() api.Value { return s.fitValue(depth - 1) })
	}
	switch kind := s.below(8); {
	case kind < 2 || depth == 1 && kind > 4:
		return num(s.number())
	case kind == 2:
		return api.Value{Kind: api.VaBytes, Bytes: s.bytes()}
	case depth == 1:
		return con(s.great())
	case kind < 6:
		return con(s.great(), kids(s.below(7))...)
	}
	return tuple(kids(2 + s.below(5))...)
}

// anyValue is of any form: also of no kind, with what none of its kind has.
func (s *sower) anyValue(names []string, depth int) api.Value {
	v := api.Value{Kind: pick(s, []int{0, 0, 1, 1, 2, 2, 2, 2, 2, 2, 3, 3, 3, 4, -1, 99, math.MaxInt, math.MinInt})}
	if v.Kind == api.VaInt || s.below(20) == 0 {
		v.Num = pick(s, edgeNumbers())
	}
	if v.Kind == api.VaBytes || s.below(20) == 0 {
		v.Bytes = s.bytes()
	}
	if v.Kind == api.VaCon || s.below(20) == 0 {
		v.Name = pick(s, names)
	}
	if (v.Kind >= api.VaCon || s.below(20) == 0) && depth > 1 {
		v.Kids = some(s.below(4), func() api.Value { return s.anyValue(names, depth-1) })
	}
	return v
}

// anyType is of any form, too.
func (s *sower) anyType(names []string, depth int) api.Type {
	t := api.Type{Kind: pick(s, []int{0, 0, 0, 1, 2, 2, 2, 2, 2, 3, 3, 4, -1})}
	if t.Kind == api.TyData || s.below(30) == 0 {
		t.Name = pick(s, names)
	}
	if (t.Kind == api.TyTuple || s.below(30) == 0) && depth > 1 {
		t.Parts = some(s.below(4), func() api.Type { return s.anyType(names, depth-1) })
	}
	return t
}

// anyTypes are such that names, of types and of a type's constructors, may stand twice or not at all.
func (s *sower) anyTypes(names, cons []string) []api.Data {
	return some(s.below(6), func() api.Data {
		return typed(pick(s, names), some(s.below(5), func() api.Con {
			return makes(pick(s, cons), some(s.below(3), func() api.Type { return s.anyType(names, 3) })...)
		})...)
	})
}

// valueOf is mostly of a type, if it has values that are not too deep.
func (s *sower) valueOf(l []api.Data, t api.Type, depth int) api.Value {
	kids := func(parts []api.Type) []api.Value {
		var made []api.Value
		for _, part := range parts {
			made = append(made, s.valueOf(l, part, depth-1))
		}
		return made
	}
	cons := consOf(l, t.Name)
	switch {
	case t.Kind == api.TyBytes:
		return api.Value{Kind: api.VaBytes, Bytes: s.bytes()}
	case t.Kind == api.TyTuple:
		return tuple(kids(t.Parts)...)
	case t.Kind == api.TyData && len(cons) > 0:
		c := pick(s, cons)
		if depth < 1 {
			c = slices.MinFunc(cons, func(a, b api.Con) int { return len(a.Fields) - len(b.Fields) })
		}
		if depth < -2 {
			return con(c.Name)
		}
		return con(c.Name, kids(c.Fields)...)
	}
	return num(s.number())
}

// edgeNumbers are those at which a field may begin, or cease, to be right.
func edgeNumbers() []int64 {
	const most = 1<<62 - 1
	return []int64{
		0, 1, 2, 3, 4, 5, 7, 8, 9, 16, 64, 65, 1 << 40, most - 1, most, most + 1, math.MaxInt64,
		-1, -2, -most + 1, -most, -most - 1, -most - 2, math.MinInt64,
	}
}

// edgeNames are names of all sorts, and what is none.
func edgeNames() []string {
	return []string{
		"", "a", "A", "B", "Nil", "Cons", "Two", "True", "Done", "list", "int", "state", "in", "é", "É", "_", "x y", "A B", "A\n", "\xff", "A\xff",
		"A" + strings.Repeat("b", 23), "A" + strings.Repeat("b", 24),
	}
}

// changes tells each thing that differs from one in one field alone, and which field.
func changes[T any](it T, tell func(changed T, field string)) {
	v := reflect.New(reflect.TypeOf(it)).Elem()
	v.Set(reflect.ValueOf(twin(it)))
	changeField(v, "", func(field string) { tell(v.Interface().(T), field) })
}

func changeField(v reflect.Value, field string, tell func(field string)) {
	old := reflect.New(v.Type()).Elem()
	old.Set(v)
	for _, n := range others(old) {
		v.Set(n)
		tell(field)
	}
	v.Set(old)
	switch v.Kind() {
	case reflect.Struct:
		for i := range v.NumField() {
			changeField(v.Field(i), v.Type().Name()+"."+v.Type().Field(i).Name, tell)
		}
	case reflect.Slice:
		for i := range v.Len() {
			changeField(v.Index(i), field+"[]", tell)
		}
	}
}

// others is what may stand for a number, a byte, a name, or a list; of structs none: their fields have others.
func others(old reflect.Value) []reflect.Value {
	var l []reflect.Value
	switch old.Kind() {
	case reflect.Struct:
	case reflect.Slice:
		l = otherLists(old)
	case reflect.String:
		for _, s := range edgeNames() {
			l = append(l, reflect.ValueOf(s))
		}
	case reflect.Uint8:
		l = append(l, reflect.ValueOf(uint8(old.Uint()+1)), reflect.ValueOf(uint8(old.Uint()-1)))
	default:
		for _, n := range append(edgeNumbers(), old.Int()-1, old.Int()+1) {
			l = append(l, reflect.ValueOf(n).Convert(old.Type()))
		}
	}
	return l
}

// otherLists is none, an empty one, one without the last part, with the first part last, with a part twice, with a zero part more, and with many.
func otherLists(old reflect.Value) []reflect.Value {
	more := func(count int) reflect.Value {
		l := reflect.AppendSlice(reflect.MakeSlice(old.Type(), 0, 0), old)
		for range count {
			l = reflect.Append(l, reflect.Zero(old.Type().Elem()))
		}
		return l
	}
	l := []reflect.Value{reflect.Zero(old.Type()), reflect.MakeSlice(old.Type(), 0, 0), more(1), more(65)}
	if n := old.Len(); n > 0 {
		l = append(l, old.Slice3(0, n-1, n-1), reflect.AppendSlice(more(0).Slice(1, n), old.Slice(0, 1)), reflect.Append(more(0), old.Index(n-1)))
	}
	return l
}
