package value_test

import (
	"reflect"
	"slices"
	"strconv"
	"strings"
	"testing"

	"handloom/api"
	"handloom/value"
)

// askAll makes each call of values and types.
func askAll(l []api.Data, v, w api.Value, x api.Type) {
	value.Of(l, v, x)
	value.Of(l, w, x)
	value.Size(v, 100)
	value.Same(v, w)
	value.Expr(v)
	value.Text(w)
}

// 0.5: what is given is not changed
func TestNothingIsChanged(t *testing.T) {
	s := sower(362436069)
	names := []string{"a", "b", "A", "B"}
	for range 400 {
		l := slices.Grow(s.anyTypes(names, names), 9) // with room behind, in which nothing may be laid
		x := s.anyType(names, 3)
		v, w := s.valueOf(l, x, 3), s.anyValue(names, 4)
		v.Kids, v.Bytes = slices.Grow(v.Kids, 3), slices.Grow(v.Bytes, 3)
		all := func() []any {
			return []any{l[:cap(l)], v, v.Kids[:cap(v.Kids)], v.Bytes[:cap(v.Bytes)], w, x}
		}
		was := []any{twin(l[:cap(l)]), twin(v), twin(v.Kids[:cap(v.Kids)]), twin(v.Bytes[:cap(v.Bytes)]), twin(w), twin(x)}
		askAll(l, v, w, x)
		askAll(l, w, v, x)
		if !reflect.DeepEqual(all(), was) {
			t.Fatalf("%s was changed to %s", short(was), short(all()))
		}
	}
}

// room is memory that a list has: where it begins, and where it ends.
type room struct{ from, to uintptr }

// rooms is that of all lists in something.
func rooms(v reflect.Value, l []room) []room {
	switch v.Kind() {
	case reflect.Struct:
		for i := range v.NumField() {
			l = rooms(v.Field(i), l)
		}
	case reflect.Slice:
		if size := uintptr(v.Cap()) * v.Type().Elem().Size(); size > 0 {
			l = append(l, room{v.Pointer(), v.Pointer() + size})
		}
		for i := range v.Len() {
			l = rooms(v.Index(i), l)
		}
	}
	return l
}

// 0.5: what Expr and Read tell is new memory, and no two of its lists share any
func TestAnswersShareNothing(t *testing.T) {
	s := sower(88172645463325252)
	for i := range 300 {
		v := s.fitValue(1 + i%4)
		e, _ := value.Expr(v)
		again, _ := value.Expr(v)
		src := value.Text(v)
		read, _ := value.Read(src)
		reread, _ := value.Read(src)
		var l []room
		for _, it := range []any{v, e, again, read, reread} {
			l = rooms(reflect.ValueOf(it), l)
		}
		slices.SortFunc(l, func(a, b room) int { return int(a.from) - int(b.from) })
		for i := range len(l) - 1 {
			if l[i].to > l[i+1].from {
				t.Fatalf("of %s an answer shares memory", short(v))
			}
		}
	}
}

// 0.5: a value that has one list in two places is an expression that has two
func TestSharedPartsAreParted(t *testing.T) {
	kids := []api.Value{text("ab"), num(1)}
	e, ok := value.Expr(tuple(con("A", kids...), con("A", kids...)))
	if !ok {
		t.Fatal("a value with one list in two places can't be written")
	}
	e.Kids[0].Kids[0].Bytes[0] = 'x'
	e.Kids[0].Kids[1].Num = 9
	if string(e.Kids[1].Kids[0].Bytes) != "ab" || e.Kids[1].Kids[1].Num != 1 || string(kids[0].Bytes) != "ab" {
		t.Error("two lists of an expression share memory")
	}
}

const many = 1 << 16

// 0.1: as many parts within one another as may be
func TestDeepValues(t *testing.T) {
	one := func(kind int) func(v api.Value) api.Value {
		return func(v api.Value) api.Value { return api.Value{Kind: kind, Name: "A", Kids: []api.Value{v}} }
	}
	deepType := number()
	for range many {
		deepType = pack(deepType)
	}
	l := []api.Data{typed("a", makes("A", data("a")), makes("A", deepType)), typed("b", makes("B", deepType))}
	for _, kind := range []int{api.VaInt, api.VaBytes, api.VaCon, api.VaTuple, 4, -1} {
		a, b := nested(many, num(1), one(kind)), nested(many, num(2), one(kind))
		if !value.Same(a, a) || value.Same(a, b) || value.Same(a, a.Kids[0]) {
			t.Errorf("deep values of the kind %d: the same as others, or not as themselves", kind)
		}
		for _, x := range []api.Type{data("a"), data("b"), deepType, number(), bytesType()} {
			if value.Of(l, a, x) {
				t.Errorf("a deep value of the kind %d is of a type", kind)
			}
		}
		if e, ok := value.Expr(a); ok || !reflect.DeepEqual(e, api.Expr{}) || value.Text(a) != "" {
			t.Errorf("a deep value of the kind %d can be written", kind)
		}
		size := map[int]int{api.VaInt: 0, api.VaBytes: 2}
		want, ok := size[kind]
		if !ok {
			want = 3 * many
		}
		if got := value.Size(a, 1<<31); got != want {
			t.Errorf("Size of a deep value of the kind %d = %d, want %d", kind, got, want)
		}
	}
	if !value.Of(l, num(1), number()) || value.Of(l, tuple(num(1)), deepType) {
		t.Error("beside a deep type a value is of none, or of it")
	}
}

// 0.1: as many parts beside one another as may be
func TestWideValues(t *testing.T) {
	kids, parts := slices.Repeat([]api.Value{con("Nil")}, many), slices.Repeat([]api.Type{data("list")}, many)
	l := append(someTypes(t), typed("wide", makes("Wide", parts...)), typed("wide", makes("Wide")))
	for _, last := range []api.Value{con("Nil"), row(1 + 997), row(1 + 998), num(1), con("Leaf"), text("a")} {
		kids := slices.Clone(kids)
		kids[many-1] = last
		want := last.Name == "Nil" || deepness(last) < 1000 && last.Name == "Cons"
		if value.Of(l, tuple(kids...), pack(parts...)) != want || value.Of(l, con("Wide", kids...), data("wide")) != want {
			t.Errorf("of a wide value that ends with %s Of is not %v", short(last), want)
		}
		if value.Of(l, tuple(kids[1:]...), pack(parts...)) || value.Of(l, con("Wide", kids...), pack(parts...)) {
			t.Error("a wide value is of a type of one part more, or of a tuple's")
		}
		if _, ok := value.Expr(tuple(kids...)); ok || value.Text(con("Wide", kids...)) != "" {
			t.Error("a wide value can be written")
		}
		if got, want := value.Size(tuple(kids...), 1<<31), 2+many+words(last); got != want {
			t.Errorf("Size of a wide value = %d, want %d", got, want)
		}
	}
	if got := value.Size(api.Value{Kind: api.VaBytes, Bytes: make([]byte, many)}, many); got != 2+many/8 {
		t.Errorf("Size of a long text = %d", got)
	}
}

// 0.1: as many types, constructors, and values of them, as may be
func TestManyTypes(t *testing.T) {
	const count = many / 4
	var l []api.Data
	var parts []api.Type
	var kids []api.Value
	all := typed("all")
	for i := range count {
		name := strconv.Itoa(i)
		l = append(l, typed("t"+name, makes("T"+name, data("t"+strconv.Itoa(i+1)))))
		all.Cons = append(all.Cons, makes("A"+name, number()))
		parts, kids = append(parts, data("all")), append(kids, con("A"+name, num(1)))
	}
	l[count-1].Cons[0].Fields = nil
	l = append(l, all)
	if !value.Of(l, tuple(kids...), pack(parts...)) {
		t.Error("a value of each constructor is not of their type")
	}
	kids[count-1].Kids[0].Kind = api.VaBytes
	if value.Of(l, tuple(kids...), pack(parts...)) {
		t.Error("a value of another constructor is of the type")
	}
	v := con("T" + strconv.Itoa(count-1))
	for i := count - 2; i >= count-1000; i-- {
		v = con("T"+strconv.Itoa(i), v)
	}
	if !value.Of(l, v, data("t"+strconv.Itoa(count-1000))) || value.Of(l, v, data("t0")) {
		t.Error("a value through many types is not of the first one, or of another")
	}
}

// 0.1: constructors of one name, as many as may be, and values that each of them might take
func TestManyConstructorsOfOneName(t *testing.T) {
	const count = 1 << 11
	l := []api.Data{{Name: "t"}}
	for i := range count {
		l[0].Cons = append(l[0].Cons, makes("A", number(), data("u"+strconv.Itoa(i))))
		l = append(l, typed("u"+strconv.Itoa(i), makes("A", number(), data("t"))))
	}
	l[count].Cons = append(l[count].Cons, makes("Z"))
	for leaf, want := range map[string]bool{"Z": true, "Y": false} {
		v := nested(999, con(leaf), func(v api.Value) api.Value { return con("A", num(1), v) })
		if got := value.Of(l, v, data("t")); got != want {
			t.Errorf("Of a value with many ways to be made, of %s, = %v", leaf, got)
		}
	}
}

// 0.1: texts of any bytes, as long as may be
func TestReadAnything(t *testing.T) {
	for _, src := range []string{
		"", "\x00", "\xff\xfe", strings.Repeat("(", many), strings.Repeat("A(", many), strings.Repeat("~", many), strings.Repeat("1,", many), strings.Repeat("x+", 2000), strings.Repeat("\n", many),
		strings.Repeat("(", 2000) + "1" + strings.Repeat(")", 2000), "\"" + strings.Repeat("\xff", 40) + "\"", strings.Repeat("#", 1<<14), strings.Repeat("\u20ac", 100),
	} {
		v, f := wantRead(src)
		reads(t, src, v, f)
	}
}
