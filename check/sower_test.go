package check_test

import (
	"math"
	"reflect"
	"slices"
	"strconv"
	"strings"

	"handloom/api"
)

// sower gives numbers that look like chance, the same ones each time.
type sower uint64

func (s *sower) below(n int) int {
	x := uint64(*s)
	x ^= x << 13
	x ^= x >> 7
	x ^= x << 17
	*s = sower(x)
	return int(x>>11) % n
}

func pick[T any](s *sower, l ...T) T { return l[s.below(len(l))] }

func some[T any](count int, make func() T) []T {
	var l []T
	for range count {
		l = append(l, make())
	}
	return l
}

// maker makes parts of programs that are of types; one of so many parts slips: it is another than it should be.
type maker struct {
	*sower
	all  []api.Data
	funs []api.Fun // those that may be called
	slip int       // 0: none slips
}

func (m *maker) slips() bool { return m.slip > 0 && m.below(m.slip) == 0 }

// pool is types that things may have: those of house, and of several parts.
func (m *maker) aType() api.Type {
	list := data("list")
	return pick(m.sower, number(), number(), text(), data("bool"), list, list, data("tree"), data("one"), data("six"), data("act"),
		tuple(number(), data("bool")), tuple(number(), list), tuple(text(), tuple(number(), data("bool"))), tuple(list, list, data("one")))
}

func (m *maker) aName() string { return pick(m.sower, "x", "y", "z", "é", "list", "len", "f0") }

func (m *maker) consOf(name string) []api.Con { return m.all[firstOf(m.all, name)].Cons }

// least is a short expression of a type.
func (m *maker) least(t api.Type, env []api.Param) api.Expr {
	seen := map[string]int{}
	var may []api.Expr
	for i := len(env) - 1; i >= 0; i-- {
		if seen[env[i].Name]++; seen[env[i].Name] == 1 && alike(env[i].Type, t) {
			may = append(may, variable(env[i].Name))
		}
	}
	if len(may) > 0 && m.below(3) > 0 {
		return pick(m.sower, may...)
	}
	leasts := func(l []api.Type) []api.Expr {
		var kids []api.Expr
		for _, part := range l {
			kids = append(kids, m.least(part, env))
		}
		return kids
	}
	switch t.Kind {
	case api.TyInt:
		return num(pick(m.sower, 0, 1, -5, most, -most))
	case api.TyBytes:
		return quoted("abc"[:m.below(4)])
	case api.TyTuple:
		return row(leasts(t.Parts)...)
	}
	if firstOf(m.all, t.Name) < 0 {
		return num(1)
	}
	c := m.consOf(t.Name)[0]
	return api.Expr{Kind: api.ExCon, Name: c.Name, Kids: leasts(c.Fields)}
}

// expr is an expression of a type, if nothing slips.
func (m *maker) expr(t api.Type, env []api.Param, depth int) api.Expr {
	if m.slips() {
		return m.slipped(t, env, depth)
	}
	if depth <= 1 {
		return m.least(t, env)
	}
	kid := func(t api.Type) api.Expr { return m.expr(t, env, depth-1) }
	with := func(of api.Type, name string) api.Expr {
		return m.expr(t, behind(env, param(name, of)), depth-1)
	}
	switch m.below(9) {
	case 0:
		return m.least(t, env)
	case 1, 2:
		return m.built(t, kid)
	case 3:
		return m.called(t, kid)
	case 4:
		of, name := m.aType(), m.aName()
		return let(name, kid(of), with(of, name))
	case 5:
		return choice(kid(data("bool")), kid(t), kid(t))
	case 6:
		return m.matched(t, env, depth)
	case 7:
		name := m.aName()
		return loop(int64(m.below(1001)), name, kid(t), with(t, name))
	}
	return m.done(t, kid)
}

// built is of constructors, or parts.
func (m *maker) built(t api.Type, kid func(t api.Type) api.Expr) api.Expr {
	kids := func(l []api.Type) []api.Expr {
		var made []api.Expr
		for _, of := range l {
			made = append(made, kid(of))
		}
		return made
	}
	switch t.Kind {
	case api.TyTuple:
		return row(kids(t.Parts)...)
	case api.TyData:
		if firstOf(m.all, t.Name) < 0 {
			return num(1)
		}
		c := pick(m.sower, m.consOf(t.Name)...)
		return api.Expr{Kind: api.ExCon, Name: c.Name, Kids: kids(c.Fields)}
	}
	return m.done(t, kid)
}

// called is a function that tells a type, if there is one.
func (m *maker) called(t api.Type, kid func(t api.Type) api.Expr) api.Expr {
	may := slices.DeleteFunc(slices.Clone(m.funs), func(f api.Fun) bool { return !alike(f.Result, t) })
	if len(may) == 0 {
		return m.built(t, kid)
	}
	f := pick(m.sower, may...)
	var kids []api.Expr
	for _, p := range f.Params {
		kids = append(kids, kid(p.Type))
	}
	return api.Expr{Kind: api.ExCall, Name: f.Name, Kids: kids}
}

// done is an operator that tells a type, if there is one.
func (m *maker) done(t api.Type, kid func(t api.Type) api.Expr) api.Expr {
	var may []int
	for n, row := range operators {
		if _, told, _ := strings.Cut(row, ">"); alike(basic(told), t) {
			may = append(may, n)
		}
	}
	if len(may) == 0 {
		return m.built(t, kid)
	}
	n := pick(m.sower, may...)
	wants, _, _ := strings.Cut(operators[n], ">")
	var kids []api.Expr
	for _, want := range strings.Split(wants, ",") {
		kids = append(kids, kid(basic(want)))
	}
	return op(int64(n), kids...)
}

func (m *maker) matched(t api.Type, env []api.Param, depth int) api.Expr {
	of := m.aType()
	return match(m.expr(of, env, depth-1), some(1+m.below(3), func() api.Arm {
		p := m.pat(of, 3, map[string]int{})
		return arm(p, m.expr(t, behind(env, namesIn(m.all, p, of)...), depth-1))
	})...)
}

// namesIn is what a pattern gives, if it is right; of others it may be anything.
func namesIn(all []api.Data, p api.Pat, t api.Type) []api.Param {
	return (&reading{all: all}).pat(nil, p, t)
}

// pat is a pattern that takes a type's values, if nothing slips; it gives none of the names that were given.
func (m *maker) pat(t api.Type, depth int, given map[string]int) api.Pat {
	if m.slips() {
		return m.slippedPat(t, depth, given)
	}
	kids := func(l []api.Type) []api.Pat {
		var made []api.Pat
		for _, of := range l {
			made = append(made, m.pat(of, depth-1, given))
		}
		return made
	}
	kind := m.below(6)
	switch {
	case kind == 0:
		return api.Pat{}
	case kind == 1 || depth <= 1:
		name := m.aName()
		for given[name]++; given[name] > 1; given[name]++ {
			name += "_"
		}
		return varPat(name)
	case t.Kind == api.TyInt:
		return numPat(pick(m.sower, 0, 1, -1, most, -most))
	case t.Kind == api.TyTuple:
		return rowPat(kids(t.Parts)...)
	case t.Kind == api.TyData && firstOf(m.all, t.Name) >= 0:
		c := pick(m.sower, m.consOf(t.Name)...)
		return conPat(c.Name, kids(c.Fields)...)
	}
	return api.Pat{}
}

func (m *maker) aCon() string {
	return pick(m.sower, "Nil", "Cons", "Leaf", "Node", "One", "Six", "True", "Done", "Say", "None", "É")
}

// slippedPat is mostly no pattern of the type.
func (m *maker) slippedPat(t api.Type, depth int, given map[string]int) api.Pat {
	other := m.aType()
	p := m.pat(t, depth, given)
	switch m.below(9) {
	case 0:
		return m.pat(other, depth, given)
	case 1:
		given["x"]++
		return varPat("x")
	case 2:
		return numPat(3)
	case 3:
		return conPat(m.aCon(), p)
	case 4:
		return rowPat(p, m.pat(other, depth-1, given))
	case 5:
		p.Kids = append(p.Kids, api.Pat{})
	case 6:
		p.Kids = p.Kids[:max(len(p.Kids)-1, 0)]
	case 7:
		return conPat("None", p)
	default:
		if t.Kind == api.TyTuple {
			return rowPat(some(len(t.Parts), func() api.Pat { return varPat(m.aName()) })...)
		}
	}
	return p
}

// slipped is mostly not of the type.
func (m *maker) slipped(t api.Type, env []api.Param, depth int) api.Expr {
	e := m.expr(t, env, depth-1)
	switch m.below(9) {
	case 0, 1:
		return m.expr(m.aType(), env, depth)
	case 2:
		return variable(pick(m.sower, "none", "state", m.aName()))
	case 3:
		return api.Expr{Kind: api.ExCon, Name: m.aCon(), Kids: some(m.below(3), func() api.Expr { return e })}
	case 4:
		name := pick(m.sower, "none", "length", "push", "f0", "f1", "f1", "f2", "f2", "f2")
		return api.Expr{Kind: api.ExCall, Name: name, Kids: some(1+m.below(3), func() api.Expr { return e })}
	case 5:
		return row(e, m.expr(t, env, depth-1))
	case 6:
		e.Kids = append(e.Kids, num(1))
	case 7:
		e.Kids = e.Kids[:max(len(e.Kids)-1, 0)]
	default:
		e.Name = m.aName()
	}
	return e
}

// unknown is a type, that is not known now and then.
func (m *maker) slippedType() api.Type {
	if m.slips() {
		return pick(m.sower, data("none"), tuple(number(), data("none")))
	}
	return m.aType()
}

func (m *maker) slippedName(name string) string {
	if m.slips() {
		return pick(m.sower, "f0", "f1", "p0", "h0", "alarm")
	}
	return name
}

// prog is a program, with types that are house's.
func (m *maker) prog(own []api.Data) api.Prog {
	slip := m.slip
	m.funs = nil
	m.slip = min(slip, 60)
	p := api.Prog{Datas: own, Queue: 1}
	for i := range m.below(4) {
		f := api.Fun{Name: m.slippedName("f" + strconv.Itoa(i)), Result: m.slippedType()}
		for k := range 1 + m.below(3) {
			f.Params = append(f.Params, param(m.slippedName("p"+strconv.Itoa(k)), m.slippedType()))
		}
		p.Funs = append(p.Funs, f)
	}
	p.State, p.Timers = m.slippedType(), pick(m.sower, 0, 0, 0, 3)
	for i := range m.below(4) {
		p.Hands = append(p.Hands, api.Hand{Name: m.slippedName("h" + strconv.Itoa(i)), Param: param(m.aName(), m.slippedType())})
	}
	if p.Timers > 0 && !m.slips() {
		p.Hands = append(p.Hands, api.Hand{Name: "alarm", Param: param("k", number())})
	}
	m.slip = slip
	m.bodies(&p)
	return p
}

// bodies gives a program's declarations what they tell.
func (m *maker) bodies(p *api.Prog) {
	tells := func(t api.Type, env []api.Param) api.Expr {
		if !(&reading{all: m.all}).isKnown(tuple(append([]api.Type{t}, each(env)...)...)) {
			return num(1)
		}
		return m.expr(t, env, 4)
	}
	for i, f := range p.Funs {
		m.funs = p.Funs[:i+1]
		p.Funs[i].Body = tells(f.Result, f.Params)
	}
	p.Init = tells(p.State, nil)
	for i, h := range p.Hands {
		p.Hands[i].Body = tells(tuple(p.State, data("act")), []api.Param{param("state", p.State), h.Param})
	}
}

func each(l []api.Param) []api.Type {
	var types []api.Type
	for _, p := range l {
		types = append(types, p.Type)
	}
	return types
}

// anyType is of any form: also of no kind, with a name or parts that none of its kind has.
func (s *sower) anyType(names []string, depth int) api.Type {
	t := api.Type{Kind: pick(s, 0, 0, 0, 1, 2, 2, 2, 2, 3, 3, 3, 4, -1)}
	if t.Kind == api.TyData || s.below(12) == 0 {
		t.Name = pick(s, names...)
	}
	if (t.Kind == api.TyTuple || s.below(12) == 0) && depth > 1 {
		t.Parts = some(s.below(4), func() api.Type { return s.anyType(names, depth-1) })
	}
	return t
}

// anyTypes are such that names, of types and of constructors, may stand twice or not at all.
func (s *sower) anyTypes(names, cons []string) []api.Data {
	return some(s.below(6), func() api.Data {
		return api.Data{Name: pick(s, names...), Cons: some(s.below(4), func() api.Con {
			return con(pick(s, cons...), some(s.below(4), func() api.Type { return s.anyType(names, 3) })...)
		})}
	})
}

// edgeNumbers are those at which a field may begin, or cease, to be right.
func edgeNumbers() []int64 {
	return []int64{0, 1, 2, 3, 4, 5, 6, 7, 8, 9, 10, 11, 12, 13, 32, 33, 64, 65, 256, 257, 1000, 1001, most, most + 1, math.MaxInt64, -1, -2, -most, -most - 1, math.MinInt64}
}

// edgeNames are names of all sorts, and what is none.
func edgeNames() []string {
	return []string{"", "x", "y", "l", "r", "é", "list", "tree", "none", "int", "bytes", "bool", "act", "len", "state", "alarm", "add", "length", "push", "Nil", "Cons", "Leaf", "Done", "True", "None", "pair", "_", "x y", "\xff"}
}

// changes tells each thing that differs from one in one field alone, and which field.
func changes[T any](it T, tell func(changed T, field string)) {
	v := reflect.New(reflect.TypeOf(it)).Elem()
	v.Set(reflect.ValueOf(twin(it)))
	changeField(v, "", func(field string) { tell(v.Interface().(T), field) })
}

func changeField(v reflect.Value, field string, tell func(field string)) {
	old := reflect.New(v.Type()).Elem()
	old.Set(v)
	for _, n := range others(old) {
		v.Set(n)
		tell(field)
	}
	v.Set(old)
	switch v.Kind() {
	case reflect.Struct:
		if v.Type() == reflect.TypeFor[api.Pos]() {
			return
		}
		for i := range v.NumField() {
			changeField(v.Field(i), v.Type().Name()+"."+v.Type().Field(i).Name, tell)
		}
	case reflect.Slice:
		for i := range v.Len() {
			changeField(v.Index(i), field+"[]", tell)
		}
	}
}

// others is what may stand for a number, a byte, a name, or a list; of structs none: their fields have others.
func others(old reflect.Value) []reflect.Value {
	var l []reflect.Value
	switch old.Kind() {
	case reflect.Struct:
	case reflect.Slice:
		l = otherLists(old)
	case reflect.String:
		for _, s := range edgeNames() {
			l = append(l, reflect.ValueOf(s))
		}
	case reflect.Uint8:
		l = append(l, reflect.ValueOf(uint8(old.Uint()+1)))
	default:
		for _, n := range edgeNumbers() {
			l = append(l, reflect.ValueOf(n).Convert(old.Type()))
		}
	}
	return l
}

// otherLists is none, one without the last part, with the first part last, with the last part twice, and with a zero part more.
func otherLists(old reflect.Value) []reflect.Value {
	copied := func() reflect.Value { return reflect.AppendSlice(reflect.MakeSlice(old.Type(), 0, 0), old) }
	l := []reflect.Value{reflect.Zero(old.Type()), reflect.Append(copied(), reflect.Zero(old.Type().Elem()))}
	if n := old.Len(); n > 0 {
		l = append(l, old.Slice3(0, n-1, n-1), reflect.AppendSlice(copied().Slice(1, n), old.Slice(0, 1)), reflect.Append(copied(), old.Index(n-1)))
	}
	return l
}
