package ty_test

import (
	"reflect"
	"slices"
	"strconv"

	"handloom/api"
)

// sower gives numbers that look like chance, the same ones each time.
type sower uint64

func (s *sower) below(n int) int {
	x := uint64(*s)
	x ^= x << 13
	x ^= x >> 7
	x ^= x << 17
	*s = sower(x)
	return int(x>>11) % n
}

func pick[T any](s *sower, l []T) T { return l[s.below(len(l))] }

func some[T any](count int, make func() T) []T {
	var l []T
	for range count {
		l = append(l, make())
	}
	return l
}

func (s *sower) place() api.Pos { return place(s.below(9), s.below(9)) }

// anyType is of any form: also of no kind, with a name or parts that none of its kind has.
func (s *sower) anyType(names []string, depth int) api.Type {
	var t api.Type
	switch kind := s.below(24); {
	case kind < 4:
		t.Kind = api.TyInt
	case kind < 6:
		t.Kind = api.TyBytes
	case kind < 17:
		t.Kind = api.TyData
	case kind < 23:
		t.Kind = api.TyTuple
	default:
		t.Kind = pick(s, []int{4, -1, 99})
	}
	if t.Kind == api.TyData || s.below(30) == 0 {
		t.Name = pick(s, names)
	}
	if t.Kind == api.TyTuple && depth > 1 || s.below(30) == 0 && depth > 1 {
		t.Parts = some(s.below(4), func() api.Type { return s.anyType(names, depth-1) })
	}
	return t
}

// anyList is types of any form, whose names may be those of others.
func (s *sower) anyList() []api.Data {
	names := []string{"", "a", "b", "c", "d", "int", "bool", "act", "A"}[:1+s.below(9)]
	return some(s.below(7), func() api.Data {
		return api.Data{At: s.place(), Name: pick(s, names), Cons: some(s.below(3), func() api.Con {
			return con(pick(s, []string{"A", "B", "Say", "True", "", "a"}), some(s.below(4), func() api.Type { return s.anyType(names, 3) })...)
		})}
	})
}

// fitType is fit, and at most so deep.
func (s *sower) fitType(names []string, depth int) api.Type {
	switch kind := s.below(8); {
	case kind == 0:
		return text()
	case kind < 4:
		return data(pick(s, names))
	case kind == 4 && depth > 1:
		return tuple(some(2+s.below(2), func() api.Type { return s.fitType(names, depth-1) })...)
	}
	return number()
}

// sorts is which faults the programs of a sower may well have.
type sorts struct{ twice, unknown, empty bool }

// fitTypes are types that a program may have, with faults of some sorts at most.
func (s *sower) fitTypes(may sorts, first, many int) []api.Data {
	names := []string{"bool", "act"}
	for i := range many {
		names = append(names, "t"+strconv.Itoa(first+i))
	}
	var l []api.Data
	for i := range many {
		d := api.Data{At: s.place(), Name: names[2+i]}
		known := slices.Clone(names)
		if may.unknown && s.below(2*many) == 0 {
			known = append(known, "none")
		}
		for n := range 1 + s.below(3) {
			c := con("C"+strconv.Itoa(first+i)+"_"+strconv.Itoa(n), some(1+s.below(3), func() api.Type { return s.fitType(known, 3) })...)
			if n == 0 && (!may.empty || s.below(4) == 0) {
				c.Fields = nil
			}
			d.Cons = append(d.Cons, c)
		}
		l = append(l, d)
	}
	if may.twice && many > 0 && s.below(2) == 0 {
		s.giveTwice(l)
	}
	return l
}

// giveTwice makes one of some types have a name that something else has.
func (s *sower) giveTwice(l []api.Data) {
	d := &l[s.below(len(l))]
	other := pick(s, slices.Concat(theTwo(), l))
	if s.below(2) == 0 {
		d.Name = other.Name
		return
	}
	d.Cons[s.below(len(d.Cons))].Name = pick(s, other.Cons).Name
}

func edgeNumbers() []int64 {
	return []int64{0, 1, 2, 3, 4, 5, 9, 32, 33, 64, 65, 256, 257, -1, -2, 1 << 40}
}

// edgeNames are names of all sorts, and what is none.
func edgeNames() []string {
	return []string{"", "a", "list", "tree", "none", "int", "bytes", "bool", "act", "Nil", "Cons", "Done", "Say", "True", "state", "é", "X", "_", "x y", "\xff"}
}

// changes tells each thing that differs from one in one field alone, and which field.
func changes[T any](it T, tell func(changed T, field string)) {
	v := reflect.New(reflect.TypeOf(it)).Elem()
	v.Set(reflect.ValueOf(twin(it)))
	changeField(v, "", func(field string) { tell(v.Interface().(T), field) })
}

func changeField(v reflect.Value, field string, tell func(field string)) {
	old := reflect.New(v.Type()).Elem()
	old.Set(v)
	for _, n := range others(old) {
		v.Set(n)
		tell(field)
	}
	v.Set(old)
	switch v.Kind() {
	case reflect.Struct:
		for i := range v.NumField() {
			changeField(v.Field(i), v.Type().Name()+"."+v.Type().Field(i).Name, tell)
		}
	case reflect.Slice:
		for i := range v.Len() {
			changeField(v.Index(i), field+"[]", tell)
		}
	}
}

// others is what may stand for a number, a name, or a list; of structs none: their fields have others.
func others(old reflect.Value) []reflect.Value {
	var l []reflect.Value
	switch old.Kind() {
	case reflect.Struct:
	case reflect.Slice:
		l = otherLists(old)
	case reflect.String:
		for _, s := range edgeNames() {
			l = append(l, reflect.ValueOf(s))
		}
	default:
		for _, n := range edgeNumbers() {
			l = append(l, reflect.ValueOf(n).Convert(old.Type()))
		}
	}
	return l
}

// otherLists is none, an empty one, one without the last part, with the first part last, with a part twice, with a zero part more, and with many.
func otherLists(old reflect.Value) []reflect.Value {
	more := func(count int) reflect.Value {
		l := reflect.AppendSlice(reflect.MakeSlice(old.Type(), 0, 0), old)
		for range count {
			l = reflect.Append(l, reflect.Zero(old.Type().Elem()))
		}
		return l
	}
	l := []reflect.Value{reflect.Zero(old.Type()), reflect.MakeSlice(old.Type(), 0, 0), more(1), more(33)}
	if n := old.Len(); n > 0 {
		l = append(l, old.Slice3(0, n-1, n-1), reflect.AppendSlice(more(0).Slice(1, n), old.Slice(0, 1)), reflect.Append(more(0), old.Index(n-1)))
	}
	return l
}
