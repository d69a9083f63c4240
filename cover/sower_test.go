package cover_test

import (
	"math"
	"reflect"
	"slices"
	"strconv"

	"handloom/api"
	"handloom/ty"
)

// sower gives numbers that look like chance, the same ones each time.
type sower uint64

func (s *sower) below(n int) int {
	x := uint64(*s)
	x ^= x << 13
	x ^= x >> 7
	x ^= x << 17
	*s = sower(x)
	return int(x>>11) % n
}

func pick[T any](s *sower, l ...T) T { return l[s.below(len(l))] }

func some[T any](count int, make func() T) []T {
	var l []T
	for range count {
		l = append(l, make())
	}
	return l
}

// maker makes patterns, values and programs of types.
type maker struct {
	*sower
	all  []api.Data
	funs []api.Fun // those that may be called
	slip int       // of so many matches one has patterns that are not right; 0: none has
}

func (m *maker) slips() bool { return m.slip > 0 && m.below(m.slip) == 0 }

func (m *maker) consOf(name string) []api.Con { return m.all[ty.Find(m.all, name)].Cons }

// aType is one of house's types, or several of them.
func (m *maker) aType() api.Type {
	one := func() api.Type {
		return pick(m.sower, number(), text(), data("bool"), data("color"), data("list"), data("tree"), data("one"), data("pair"), data("even"), data("odd"), data("six"), data("act"))
	}
	if m.below(3) == 0 {
		parts := some(2+m.below(2), one)
		if m.below(3) == 0 {
			parts[0] = tuple(one(), one())
		}
		return tuple(parts...)
	}
	return one()
}

// someTypes is all types of a program of its own, with which nothing is wrong.
func (s *sower) someTypes() []api.Data {
	for {
		p := api.Prog{Queue: 1}
		count := 1 + s.below(4)
		name := func() string { return "t" + strconv.Itoa(s.below(count)) }
		for i := range count {
			d := api.Data{Name: "t" + strconv.Itoa(i)}
			for k := range 1 + s.below(4) {
				fields := some(s.below(4), func() api.Type {
					return pick(s, number(), text(), data("bool"), data(name()), data(name()), tuple(data("bool"), data(name())), tuple(number(), tuple(data(name()), text())))
				})
				d.Cons = append(d.Cons, con("C"+strconv.Itoa(i)+strconv.Itoa(k), fields...))
			}
			p.Datas = append(p.Datas, d)
		}
		if ty.Check(p) == (api.Fault{}) {
			return ty.Datas(p)
		}
	}
}

// hole is a part of a pattern that asks nothing, and the type of which it takes all.
type hole struct {
	at *api.Pat
	of api.Type
}

func (m *maker) holes(l []hole, p *api.Pat, t api.Type) []hole {
	fields := t.Parts
	switch p.Kind {
	case api.PtInt:
		return l
	case api.PtAny, api.PtVar:
		return append(l, hole{p, t})
	case api.PtCon:
		for _, c := range m.consOf(t.Name) {
			if c.Name == p.Name {
				fields = c.Fields
			}
		}
	}
	for at := range p.Kids {
		l = m.holes(l, &p.Kids[at], fields[at])
	}
	return l
}

func blanks(count int) []api.Pat { return make([]api.Pat, count) }

// fillings is what may stand in a hole: together they take all that it takes.
func (m *maker) fillings(of api.Type) []api.Pat {
	var l []api.Pat
	switch of.Kind {
	case api.TyInt:
		return []api.Pat{numPat(pick(m.sower, 0, 1, 2, -1, greatest, -greatest)), anyPat()}
	case api.TyTuple:
		return []api.Pat{rowPat(blanks(len(of.Parts))...)}
	case api.TyData:
		for _, c := range m.consOf(of.Name) {
			l = append(l, conPat(c.Name, blanks(len(c.Fields))...))
		}
	default:
		return []api.Pat{anyPat()}
	}
	return l
}

// covering is patterns that take all of a type, made of one that does by filling so many holes.
func (m *maker) covering(t api.Type, steps int) []api.Pat {
	l := blanks(1)
	for range steps {
		at := m.below(len(l))
		if h := m.holes(nil, &l[at], t); len(h) > 0 {
			which := m.below(len(h))
			var made []api.Pat
			for _, filling := range m.fillings(h[which].of) {
				p := twin(l[at])
				*m.holes(nil, &p, t)[which].at = filling
				made = append(made, p)
			}
			l = slices.Replace(l, at, at+1, made...)
		}
	}
	return l
}

// spoilt is mostly other patterns of the same type: with more, fewer, others, in another order.
func (m *maker) spoilt(l []api.Pat, t api.Type) []api.Pat {
	l = twin(l)
	at := m.below(len(l))
	switch m.below(6) {
	case 0:
		l = slices.Delete(l, at, at+1)
	case 1:
		l = slices.Insert(l, m.below(len(l)+1), twin(l[at]))
	case 2:
		l = slices.Insert(l, m.below(len(l)+1), anyPat())
	case 3:
		other := m.below(len(l))
		l[at], l[other] = l[other], l[at]
	case 4:
		l = slices.Insert(l, m.below(len(l)+1), m.pat(t, 3))
	default:
		l[at] = m.wider(l[at])
	}
	return l
}

// wider is a pattern one part of which asks nothing any more.
func (m *maker) wider(p api.Pat) api.Pat {
	if len(p.Kids) == 0 || m.below(3) == 0 {
		return anyPat()
	}
	at := m.below(len(p.Kids))
	p.Kids[at] = m.wider(p.Kids[at])
	return p
}

// pat is a pattern that takes a type's values.
func (m *maker) pat(t api.Type, depth int) api.Pat {
	if depth <= 1 || m.below(3) == 0 {
		return anyPat()
	}
	p := pick(m.sower, m.fillings(t)...)
	for _, h := range m.holes(nil, &p, t) {
		if h.at != &p {
			*h.at = m.pat(h.of, depth-1)
		}
	}
	return p
}

// somePats is patterns of a type: sometimes they take all, sometimes one is of no use.
func (m *maker) somePats(t api.Type) []api.Pat {
	l := m.covering(t, m.below(7))
	for range m.below(4) {
		if len(l) > 0 {
			l = m.spoilt(l, t)
		}
	}
	if m.below(8) == 0 {
		l = some(m.below(7), func() api.Pat { return m.pat(t, 3) })
	}
	return m.withNames(l)
}

// withNames is patterns of which some that took all give names now.
func (m *maker) withNames(l []api.Pat) []api.Pat {
	for at := range l {
		count := 0
		m.nameSome(&l[at], &count)
	}
	return l
}

func (m *maker) nameSome(p *api.Pat, count *int) {
	if p.Kind == api.PtAny && m.below(2) == 0 {
		*p = varPat("x" + strconv.Itoa(*count))
		*count++
	}
	for at := range p.Kids {
		m.nameSome(&p.Kids[at], count)
	}
}

// aValue is of a type, and mostly not deeper than so much.
func (m *maker) aValue(t api.Type, depth int) api.Value {
	kids := func(l []api.Type) []api.Value {
		var made []api.Value
		for _, of := range l {
			made = append(made, m.aValue(of, depth-1))
		}
		return made
	}
	switch t.Kind {
	case api.TyInt:
		return numVal(pick(m.sower, 0, 1, 2, 3, -1, greatest, -greatest, -greatest-1))
	case api.TyBytes:
		return textVal("abc"[:m.below(4)])
	case api.TyTuple:
		return rowVal(kids(t.Parts)...)
	}
	if depth < 1 {
		v, _ := newReading(m.all).any(t)
		return v
	}
	c := pick(m.sower, m.consOf(t.Name)...)
	return conVal(c.Name, kids(c.Fields)...)
}

// anyPattern is of any form: also of no kind, with what none of its kind has.
func (s *sower) anyPattern(depth int) api.Pat {
	p := api.Pat{Kind: pick(s, 0, 1, 1, 2, 2, 3, 3, 3, 4, 4, 4, 5, -1)}
	if p.Kind == api.PtInt || s.below(9) == 0 {
		p.Num = pick(s, 0, 1, 2, greatest+1, math.MinInt64)
	}
	if p.Kind == api.PtVar || p.Kind == api.PtCon || s.below(9) == 0 {
		p.Name = pick(s, "", "x", "Nil", "Cons", "True", "C00")
	}
	if (p.Kind >= api.PtCon || s.below(9) == 0) && depth > 1 {
		p.Kids = some(s.below(4), func() api.Pat { return s.anyPattern(depth - 1) })
	}
	return p
}

// valueFor is often one that a pattern takes, and always of any form.
func (s *sower) valueFor(p api.Pat) api.Value {
	if s.below(12) == 0 {
		return s.anyValue(3)
	}
	var v api.Value
	switch p.Kind {
	case api.PtInt:
		v.Num = p.Num
	case api.PtCon:
		v.Kind, v.Name = api.VaCon, p.Name
	case api.PtTuple:
		v.Kind = api.VaTuple
	default:
		return s.anyValue(3)
	}
	for _, kid := range p.Kids {
		v.Kids = append(v.Kids, s.valueFor(kid))
	}
	if s.below(9) == 0 {
		v.Bytes = []byte("a")
	}
	return v
}

func (s *sower) anyValue(depth int) api.Value {
	v := api.Value{Kind: pick(s, 0, 0, 1, 2, 2, 2, 3, 3, 4, -1), Num: int64(s.below(3)), Name: pick(s, "", "x", "Nil", "Cons", "True")}
	v.Bytes = []byte("ab")[:s.below(3)]
	if depth > 1 {
		v.Kids = some(s.below(4), func() api.Value { return s.anyValue(depth - 1) })
	}
	return v
}

// anyType is of any form, too.
func (s *sower) anyType(depth int) api.Type {
	t := api.Type{Kind: pick(s, 0, 0, 1, 2, 2, 2, 3, 3, 4, -1)}
	if t.Kind == api.TyData || s.below(9) == 0 {
		t.Name = pick(s, "", "a", "b", "c", "bool", "list", "int")
	}
	if (t.Kind == api.TyTuple || s.below(9) == 0) && depth > 1 {
		t.Parts = some(s.below(4), func() api.Type { return s.anyType(depth - 1) })
	}
	return t
}

// anyTypes are such that names, of types and of constructors, may stand twice or not at all.
func (s *sower) anyTypes() []api.Data {
	return some(s.below(6), func() api.Data {
		return typed(pick(s, "", "a", "b", "c", "bool", "list", "int"), some(s.below(4), func() api.Con {
			return con(pick(s, "", "x", "Nil", "Cons", "True", "C00"), some(s.below(4), func() api.Type { return s.anyType(3) })...)
		})...)
	})
}

// changes tells each thing that differs from one in one field alone.
func changes[T any](it T, tell func(changed T)) {
	v := reflect.New(reflect.TypeOf(it)).Elem()
	v.Set(reflect.ValueOf(twin(it)))
	changeField(v, func() { tell(v.Interface().(T)) })
}

func changeField(v reflect.Value, tell func()) {
	old := reflect.New(v.Type()).Elem()
	old.Set(v)
	for _, n := range others(old) {
		v.Set(n)
		tell()
	}
	v.Set(old)
	switch v.Kind() {
	case reflect.Struct:
		for i := range v.NumField() {
			changeField(v.Field(i), tell)
		}
	case reflect.Slice:
		for i := range v.Len() {
			changeField(v.Index(i), tell)
		}
	}
}

// others is what may stand for a number, a byte, a name, or a list; of structs none: their fields have others.
func others(old reflect.Value) []reflect.Value {
	var l []reflect.Value
	switch old.Kind() {
	case reflect.Struct:
	case reflect.Slice:
		l = otherLists(old)
	case reflect.String:
		for _, s := range []string{"", "x", "y", "r", "Nil", "Cons", "Leaf", "True", "Done", "Red", "list", "int", "f", "state", "none", "\xff"} {
			l = append(l, reflect.ValueOf(s))
		}
	case reflect.Uint8:
		l = append(l, reflect.ValueOf(uint8(old.Uint()+1)))
	default:
		for _, n := range []int64{0, 1, 2, 3, 4, 5, 6, 7, 8, 9, 10, 11, 64, 65, greatest, greatest + 1, math.MaxInt64, -1, -greatest, -greatest - 1, math.MinInt64} {
			l = append(l, reflect.ValueOf(n).Convert(old.Type()))
		}
	}
	return l
}

// otherLists is none, one without the last part, with the first part last, with the last part twice, and with a zero part more.
func otherLists(old reflect.Value) []reflect.Value {
	copied := func() reflect.Value { return reflect.AppendSlice(reflect.MakeSlice(old.Type(), 0, 0), old) }
	l := []reflect.Value{reflect.Zero(old.Type()), reflect.Append(copied(), reflect.Zero(old.Type().Elem()))}
	if n := old.Len(); n > 0 {
		l = append(l, old.Slice3(0, n-1, n-1), reflect.AppendSlice(copied().Slice(1, n), old.Slice(0, 1)), reflect.Append(copied(), old.Index(n-1)))
	}
	return l
}
