package cover_test

import (
	"reflect"
	"slices"
	"strconv"
	"testing"

	"handloom/api"
	"handloom/cover"
	"handloom/ty"
	"handloom/value"
)

// given is what the four calls may be given.
type given struct {
	p    api.Prog
	l    []api.Data
	of   api.Type
	pats []api.Pat
	v    api.Value
}

// all are such of all sorts, right ones and others, with empty lists, too.
func all(t *testing.T) []given {
	s := sower(521288629)
	m := maker{sower: &s, all: home(t), slip: 20}
	l := []given{{}, {
		api.Prog{Datas: []api.Data{{Cons: []api.Con{{Fields: []api.Type{{Parts: []api.Type{}}}}}}}, Funs: []api.Fun{}, Hands: []api.Hand{}},
		[]api.Data{{Cons: []api.Con{}}}, api.Type{Parts: []api.Type{}}, []api.Pat{{Kids: []api.Pat{}}}, api.Value{Bytes: []byte{}, Kids: []api.Value{}},
	}}
	for range 100 {
		of := m.aType()
		l = append(l, given{numbered(m.prog()), m.all, of, numbered(m.somePats(of)), m.aValue(of, 5)})
	}
	for range 100 {
		p := s.anyPattern(4)
		l = append(l, given{api.Prog{Datas: s.anyTypes()}, s.anyTypes(), s.anyType(4), append(some(3, func() api.Pat { return s.anyPattern(4) }), p), s.valueFor(p)})
	}
	return l
}

func (g given) twin() given { return given{twin(g.p), twin(g.l), twin(g.of), twin(g.pats), twin(g.v)} }

// told is what the four calls tell.
type told struct {
	fault   api.Fault
	missing api.Value
	is      bool
	spare   int
	binds   [][]api.Bind
}

func (g given) ask() told {
	a := told{fault: cover.Check(g.p), spare: cover.Spare(g.l, g.of, g.pats)}
	a.missing, a.is = cover.Missing(g.l, g.of, g.pats)
	for _, p := range g.pats {
		l, _ := cover.Takes(p, g.v)
		a.binds = append(a.binds, l)
	}
	l, _ := cover.Takes(rowPat(varPat("x"), rowPat(anyPat(), varPat("y"))), rowVal(g.v, rowVal(g.v, g.v)))
	a.binds = append(a.binds, l)
	return a
}

// 0.5: what is given is not changed, nor what lies behind it
func TestNothingIsChanged(t *testing.T) {
	for _, g := range all(t) {
		g.l = append(make([]api.Data, 0, len(g.l)+9), g.l...)
		g.pats = append(make([]api.Pat, 0, len(g.pats)+9), g.pats...)
		types, pats := g.l[:cap(g.l)], g.pats[:cap(g.pats)]
		was, wasTypes, wasPats := g.twin(), twin(types), twin(pats)
		g.ask()
		if !reflect.DeepEqual(g, was) || !reflect.DeepEqual(types, wasTypes) || !reflect.DeepEqual(pats, wasPats) {
			t.Fatalf("%s was changed to %s", short(was), short(g))
		}
	}
}

// room is memory that a list has: where it begins, and where it ends.
type room struct{ from, to uintptr }

// rooms is that of all lists in something.
func rooms(v reflect.Value, l []room) []room {
	switch v.Kind() {
	case reflect.Struct:
		for i := range v.NumField() {
			l = rooms(v.Field(i), l)
		}
	case reflect.Slice:
		if size := uintptr(v.Cap()) * v.Type().Elem().Size(); size > 0 {
			l = append(l, room{v.Pointer(), v.Pointer() + size})
		}
		for i := range v.Len() {
			l = rooms(v.Index(i), l)
		}
	}
	return l
}

// apart wants no two lists in some things to share memory.
func apart(t *testing.T, things ...any) {
	t.Helper()
	var l []room
	for _, it := range things {
		l = rooms(reflect.ValueOf(it), l)
	}
	slices.SortFunc(l, func(a, b room) int { return int(a.from) - int(b.from) })
	for i := range len(l) - 1 {
		if l[i].to > l[i+1].from {
			t.Fatalf("of %s two lists share memory", short(things))
		}
	}
}

// 0.5: what is told is new memory, and no two of its lists share any; 0.7: an empty list is none
func TestAnswersShareNothing(t *testing.T) {
	missing, names := 0, 0
	for _, g := range all(t) {
		// what is given may share memory within itself
		g = g.twin()
		first, second := g.ask(), g.ask()
		if !reflect.DeepEqual(first, second) || !reflect.DeepEqual(first.missing, trim(first.missing)) || !reflect.DeepEqual(first.binds, trim(first.binds)) {
			t.Fatalf("%s and then %s was told", short(first), short(second))
		}
		apart(t, g.p, g.l, g.of, g.pats, g.v, first.missing, second.missing, first.binds, second.binds)
		missing += partsOf(first.missing) - 1
		for _, l := range first.binds {
			names += len(l)
		}
	}
	if missing < 50 || names < 300 {
		t.Errorf("%d parts, %d names were told: too few", missing, names)
	}
	l := home(t)
	v, _ := cover.Missing(l, typeOf(t, "((tree * tree) * (tree * tree))"), pats(t, "((Leaf, _), _) | ((_, Leaf), _) | (_, (Leaf, _)) | (_, (_, Leaf))"))
	again, _ := cover.Missing(l, typeOf(t, "((tree * tree) * (tree * tree))"), pats(t, "((Leaf, _), _) | ((_, Leaf), _) | (_, (Leaf, _)) | (_, (_, Leaf))"))
	if partsOf(v) < 20 {
		t.Errorf("%s is missing", short(v))
	}
	apart(t, v, again)
}

// 0.5: what is done with an answer is not to be seen in another
func TestAnswersAreTheirOwn(t *testing.T) {
	l, of := home(t), typeOf(t, "(one * (list * tree))")
	some := pats(t, "(One(_), (Nil, _)) | (_, (_, Leaf))")
	p, v := pats(t, "(x, (Cons(y, z), w))")[0], val(t, "(One(\"ab\"), (Cons(1, Cons(2, Nil)), Leaf))")
	wasPats, wasValue := twin(some), twin(v)
	for range 2 {
		got, ok := cover.Missing(l, of, some)
		if !ok || !value.Of(l, got, of) || len(takers(some, got)) > 0 {
			t.Fatalf("%s, %v is missing", short(got), ok)
		}
		spoil(got)
		names, _ := cover.Takes(p, v)
		if want, _ := wantTakes(p, v); !reflect.DeepEqual(names, want) {
			t.Fatalf("%s is told, want %s", short(names), short(want))
		}
		for i := range names {
			names[i].Name = "spoilt"
			spoil(names[i].Value)
		}
	}
	if !reflect.DeepEqual(some, wasPats) || !reflect.DeepEqual(v, wasValue) {
		t.Errorf("%s was changed", short(v))
	}
	names, _ := cover.Takes(p, v)
	spoil(v)
	if want, _ := wantTakes(p, wasValue); !reflect.DeepEqual(names, want) {
		t.Errorf("of a value that was changed since %s is told", short(names))
	}
}

func spoil(v api.Value) {
	for i := range v.Bytes {
		v.Bytes[i]++
	}
	for i := range v.Kids {
		spoil(v.Kids[i])
		v.Kids[i] = api.Value{Kind: 9}
	}
}

// many is how many parts an argument may have.
const many = 1 << 16

// 0.1, P10.1: patterns and values as deep as may be
func TestTakesDeep(t *testing.T) {
	deep := nested(many-1, numVal(1), func(v api.Value) api.Value { return conVal("A", v) })
	p := nested(many-1, varPat("x"), func(p api.Pat) api.Pat { return conPat("A", p) })
	taken(t, p, deep, bind("x", numVal(1)))
	notTaken(t, nested(many-1, numPat(2), func(p api.Pat) api.Pat { return conPat("A", p) }), deep)
	notTaken(t, p, nested(many-2, numVal(1), func(v api.Value) api.Value { return conVal("A", v) }))
	notTaken(t, p, rowVal(deep))
	names, ok := cover.Takes(rowPat(anyPat(), varPat("y")), rowVal(numVal(1), deep))
	if !ok || len(names) != 1 || names[0].Name != "y" || !value.Same(names[0].Value, deep) {
		t.Error("a deep value is given as another")
	}
}

// 0.1, P10.1: as many Kids, and as many names, as may be
func TestTakesWide(t *testing.T) {
	var kids []api.Value
	var pats []api.Pat
	var names []api.Bind
	for i := range many - 1 {
		kids, pats = append(kids, numVal(int64(i))), append(pats, varPat(strconv.Itoa(i)))
		names = append(names, bind(strconv.Itoa(i), numVal(int64(i))))
	}
	taken(t, rowPat(pats...), rowVal(kids...), names...)
	notTaken(t, rowPat(pats[1:]...), rowVal(kids...))
	pats[many-2] = numPat(0)
	notTaken(t, rowPat(pats...), rowVal(kids...))
	long := api.Value{Kind: api.VaBytes, Bytes: make([]byte, many)}
	taken(t, varPat("x"), long, bind("x", long))
}

// 0.1: rows of patterns as long as may be
func TestLongRows(t *testing.T) {
	l := home(t)
	var nums, pairs []api.Pat
	for i := range many {
		nums = append(nums, numPat(int64(i)))
	}
	for i := range many / 12 {
		pairs = append(pairs, rowPat(numPat(int64(i/4)), numPat(int64(i%4))))
	}
	for _, c := range []struct {
		of    api.Type
		pats  []api.Pat
		is    bool
		spare int
	}{
		{number(), nums, true, -1}, {number(), append(slices.Clone(nums), numPat(7)), true, many}, {number(), append(slices.Clone(nums), anyPat()), false, -1},
		{number(), append(slices.Clone(nums), anyPat(), numPat(-1)), false, many + 1}, {number(), blanks(many), false, 1}, {data("tree"), blanks(many), false, 1},
		{tuple(number(), number()), pairs, true, -1}, {tuple(number(), number()), append(slices.Clone(pairs), rowPat(anyPat(), numPat(2)), pairs[5]), true, len(pairs) + 1},
		{tuple(number(), number()), append(slices.Clone(pairs), rowPat(varPat("x"), varPat("y"))), false, -1},
		{text(), nums, true, 0}, {data("list"), nums, true, 0}, {number(), make([]api.Pat, many), false, 1},
	} {
		v, is := cover.Missing(l, c.of, c.pats)
		if got := cover.Spare(l, c.of, c.pats); is != c.is || got != c.spare || is && (!value.Of(l, v, c.of) || len(takers(c.pats, v)) > 0) {
			t.Errorf("of %s, %d patterns: %s, %v is missing, %d is spare, want %v, %d", short(c.of), len(c.pats), short(v), is, got, c.is, c.spare)
		}
	}
}

// 0.1: a pattern of as many parts as may be
func TestGreatPatterns(t *testing.T) {
	of := nested(6, number(), func(of api.Type) api.Type { return tuple(of, of, of, of, of, of) })
	count := 0
	var grow func(levels, last int) api.Pat
	grow = func(levels, last int) api.Pat {
		if levels == 0 {
			count++
			return numPat(int64(count % last))
		}
		return rowPat(some(6, func() api.Pat { return grow(levels-1, last) })...)
	}
	p, q := grow(6, 5), grow(6, 7)
	for _, c := range []struct {
		pats  []api.Pat
		is    bool
		spare int
	}{{[]api.Pat{p}, true, -1}, {[]api.Pat{p, q}, true, -1}, {[]api.Pat{p, q, p}, true, 2}, {[]api.Pat{p, q, anyPat()}, false, -1}} {
		v, is := cover.Missing(nil, of, c.pats)
		if got := cover.Spare(nil, of, c.pats); is != c.is || got != c.spare || is && len(takers(c.pats, v)) > 0 {
			t.Errorf("of great patterns %v is missing, %d is spare, want %v, %d", is, got, c.is, c.spare)
		}
	}
}

// 0.1: patterns that leave what no one could go through, if all of it were written down
func TestManyWaysLeft(t *testing.T) {
	six := func(of api.Type) api.Type { return tuple(of, of, of, of, of, of) }
	of := nested(3, data("bool"), six)
	wide := func(at int, p api.Pat) api.Pat {
		l := blanks(6)
		l[at] = p
		return rowPat(l...)
	}
	yes := conPat("True")
	var l []api.Pat
	for i := range 36 {
		l = append(l, wide(i/6, wide(i%6, rowPat(yes, yes, yes, yes, yes, yes))))
	}
	all := ty.Datas(api.Prog{})
	v, is := cover.Missing(all, of, l)
	if !is || !value.Of(all, v, of) || len(takers(l, v)) > 0 || cover.Spare(all, of, l) >= 0 {
		t.Errorf("%s, %v is missing", short(v), is)
	}
	if got := cover.Spare(all, of, append(l, wide(3, wide(3, rowPat(yes, yes, yes, yes, yes, yes))))); got != 36 {
		t.Errorf("%d is spare, want the last one", got)
	}
}

// 0.1, P10.2: many patterns that part a type as a tree does, in any order, whose branches ask at any place
func TestPatternsOfATree(t *testing.T) {
	s := sower(88172645463325252)
	for _, names := range []int{2, 4, 16} {
		d := typed("e")
		for i := range names {
			d.Cons = append(d.Cons, con("E"+strconv.Itoa(i)))
		}
		l := append(ty.Datas(api.Prog{}), d)
		e := data("e")
		of := tuple(tuple(e, e, e, e, e, e), tuple(e, e, e, e, e, e))
		made := s.leaves(names, rowPat(rowPat(blanks(6)...), rowPat(blanks(6)...)), 600)
		for at := range made {
			other := s.below(len(made))
			made[at], made[other] = made[other], made[at]
		}
		if v, is := cover.Missing(l, of, made); is {
			t.Errorf("%s is missing", short(v))
		}
		if got := cover.Spare(l, of, made); got >= 0 {
			t.Errorf("%d of %d is spare", got, len(made))
		}
		v, is := cover.Missing(l, of, made[1:])
		if !is || !isTaken(made[0], v) || len(takers(made[1:], v)) > 0 {
			t.Errorf("%s is missing, want what %s takes", short(v), short(made[0]))
		}
		if got := cover.Spare(l, of, append(slices.Clone(made), anyPat())); got != len(made) {
			t.Errorf("%d of %d is spare, want the last one", got, len(made)+1)
		}
	}
}

// leaves is patterns, of two rows of names, that part what one takes; mostly not more than so many.
func (s *sower) leaves(names int, p api.Pat, most int) []api.Pat {
	row, at := s.below(2), s.below(6)
	if most < names || p.Kids[row].Kids[at].Kind != api.PtAny {
		return []api.Pat{p}
	}
	var l []api.Pat
	for i := range names {
		q := twin(p)
		q.Kids[row].Kids[at] = conPat("E" + strconv.Itoa(i))
		l = append(l, s.leaves(names, q, most/names*(1+s.below(2)))...)
	}
	return l
}

// 0.1: types, patterns and values of any form: there is an answer to each
func TestAnyForm(t *testing.T) {
	s := sower(2463534242)
	for range 20000 {
		l, of := s.anyTypes(), s.anyType(4)
		some := some(s.below(5), func() api.Pat { return s.anyPattern(4) })
		v, is := cover.Missing(l, of, some)
		if is && !value.Of(l, v, of) || !is && !reflect.DeepEqual(v, api.Value{}) {
			t.Fatalf("of %s, %s Missing tells %s, %v", short(l), short(of), short(v), is)
		}
		if got := cover.Spare(l, of, some); got < -1 || got >= len(some) {
			t.Fatalf("of %d patterns %d is spare", len(some), got)
		}
	}
}

// 0.1: types and patterns that are too deep, too wide, or too many
func TestTooGreat(t *testing.T) {
	l := home(t)
	wrap := func(of api.Type) api.Type { return tuple(of) }
	deepPat := nested(many, anyPat(), func(p api.Pat) api.Pat { return rowPat(p) })
	conDeep := nested(many/2, anyPat(), func(p api.Pat) api.Pat { return conPat("Cons", anyPat(), p) })
	var cons []api.Con
	var chained []api.Data
	for i := range many / 4 {
		cons = append(cons, con("A"+strconv.Itoa(i)), con("B"+strconv.Itoa(i), number(), data("all")))
		chained = append(chained, typed("c"+strconv.Itoa(i), con("C"+strconv.Itoa(i), data("c"+strconv.Itoa(i+1)))))
	}
	chained = append(chained, typed("c"+strconv.Itoa(many/4), con("Z")))
	wide := []api.Data{typed("all", cons...), typed("wide", con("Wide", make([]api.Type, many)...))}
	nums := some(many, func() api.Pat { return numPat(1) })
	ask := func(l []api.Data, of api.Type, is bool, pats ...api.Pat) {
		t.Helper()
		_, got := cover.Missing(l, of, pats)
		cover.Spare(l, of, pats)
		if got != is {
			t.Errorf("of %s %v is missing", short(of), got)
		}
	}
	deep := nested(many, number(), wrap)
	ask(nil, deep, false)
	ask(nil, deep, false, anyPat(), deepPat, deepPat)
	ask(nil, nested(999, number(), wrap), true)
	ask(nil, nested(1000, number(), wrap), false)
	ask(l, data("list"), true, conDeep, conDeep)
	ask(chained, data("c0"), false)
	ask(chained, data("c"+strconv.Itoa(many/4-999)), true)
	ask(chained, data("c"+strconv.Itoa(many/4-1000)), false)
	ask(wide, data("all"), true)
	ask(wide, data("all"), false, anyPat())
	ask(wide, data("all"), true, conPat("A0"), conPat("A40"), conPat("A16000"), conPat("B40", numPat(1), anyPat()), conPat("B5", numPat(1), conPat("A99")))
	ask(wide, data("all"), true, conPat("A16000"), conPat("A40"), conPat("B40", anyPat(), conPat("A16000")), conPat("B40", anyPat(), conPat("A1")))
	ask(wide, data("wide"), true)
	ask(wide, data("wide"), false, anyPat(), conPat("Wide", nums...), conPat("Wide", blanks(many)...))
	ask(nil, tuple(make([]api.Type, many)...), false, anyPat(), rowPat(nums...))
	cover.Missing(wide, data("wide"), []api.Pat{conPat("Wide", nums...), conPat("Wide", blanks(many)...)})
	cover.Spare(wide, data("wide"), []api.Pat{conPat("Wide", nums...), conPat("Wide", nums...), conPat("Wide", blanks(many)...)})
	for _, p := range []api.Prog{{Queue: 1, State: deep}, {Queue: 1, Datas: chained}, {Queue: 1, Init: nested(many, num(1), func(e api.Expr) api.Expr { return row(e) })}} {
		if got := cover.Check(p); got != (api.Fault{Err: api.ErrForm}) {
			t.Errorf("Check of what is too great = %v", got)
		}
	}
}

// doubled is a name that is twice itself so many times, and then what is within.
func doubled(count int, within api.Expr) api.Expr {
	return nested(count, within, func(e api.Expr) api.Expr { return let("x", row(variable("x"), variable("x")), e) })
}

// 0.1, P10.3: names that are made of one another have types of more parts than there is memory for: matches of them come to an end
func TestTypesOfManyParts(t *testing.T) {
	p := prog(t, house+rest)
	one, x := num(1), variable("x")
	half := func(p, q api.Pat) api.Pat { return rowPat(rowPat(anyPat(), p), q) }
	with := func(e api.Expr) api.Fault {
		p := p
		p.Funs = []api.Fun{{Name: "f", Params: []api.Param{param("x", data("color"))}, Result: number(), Body: numbered(e)}}
		return cover.Check(p)
	}
	for _, c := range []struct {
		e   api.Expr
		err api.Errno
	}{
		{doubled(58, match(x, arm(varPat("y"), one))), api.OK},
		{doubled(58, match(x, arm(half(varPat("y"), varPat("z")), one))), api.OK},
		{doubled(58, match(x, arm(half(varPat("y"), varPat("z")), one), arm(anyPat(), one))), api.ErrSpare},
		{doubled(50, match(x, arm(half(varPat("y"), varPat("z")), match(variable("y"), arm(half(varPat("u"), anyPat()), one), arm(anyPat(), one))))), api.ErrSpare},
		{doubled(50, match(choose(api.Expr{Kind: api.ExCon, Name: "True"}, x, x), arm(half(anyPat(), varPat("z")), match(variable("z"), arm(half(varPat("u"), anyPat()), one))))), api.OK},
		{doubled(40, match(loop(3, "y", x, x), arm(half(anyPat(), anyPat()), one))), api.OK},
		{doubled(3, match(x, arm(half(rowPat(conPat("Red"), anyPat()), anyPat()), one))), api.ErrCover},
		{doubled(3, match(x, arm(half(rowPat(conPat("Red"), anyPat()), anyPat()), one), arm(anyPat(), one))), api.OK},
	} {
		if got := with(c.e); got.Err != c.err {
			t.Errorf("Check of %s = %v, want %d", short(c.e), got, c.err)
		}
	}
}

// 0.1, P10.3: as many functions, handlers, arms and matches as may be
func TestGreatPrograms(t *testing.T) {
	of := tuple(number(), tuple(data("bool"), number()))
	arms := []api.Arm{}
	for i := range 18 {
		arms = append(arms, arm(rowPat(numPat(int64(i)), anyPat()), num(1)))
	}
	arms = append(arms, arm(rowPat(anyPat(), rowPat(conPat("True"), varPat("y"))), variable("y")), arm(varPat("x"), num(1)))
	p := api.Prog{Queue: 1, Init: num(1)}
	for i := range api.MaxFuns {
		body := nested(15, num(1), func(e api.Expr) api.Expr {
			return api.Expr{Kind: api.ExOp, Kids: []api.Expr{match(variable("x"), arms...), e}}
		})
		p.Funs = append(p.Funs, api.Fun{Name: "f" + strconv.Itoa(i), Params: []api.Param{param("x", of)}, Result: number(), Body: body})
	}
	for i := range api.MaxHands {
		done := api.Expr{Kind: api.ExCon, Name: "Done"}
		p.Hands = append(p.Hands, api.Hand{Name: "h" + strconv.Itoa(i), Param: param("x", of), Body: row(match(variable("x"), arms...), done)})
	}
	p = numbered(p)
	if got := cover.Check(p); got != (api.Fault{}) {
		t.Errorf("Check of a great program = %v", got)
	}
	last := &p.Hands[api.MaxHands-1].Body.Kids[0]
	last.Arms[19].Pat = twin(last.Arms[4].Pat)
	if got := cover.Check(p); got != (api.Fault{Err: api.ErrSpare, At: last.Arms[19].Pat.At}) {
		t.Errorf("Check of a great program whose last arm is spare = %v", got)
	}
	last.Arms = last.Arms[:19]
	if got := cover.Check(p); got != (api.Fault{Err: api.ErrCover, At: last.At}) {
		t.Errorf("Check of a great program whose last match takes not all = %v", got)
	}
}

// 0.1: the zero values, and empty lists
func TestNothingGiven(t *testing.T) {
	if got := cover.Check(api.Prog{}); got != (api.Fault{Err: api.ErrForm}) {
		t.Errorf("Check of nothing = %v", got)
	}
	if got := cover.Check(api.Prog{Queue: 1}); got != (api.Fault{}) {
		t.Errorf("Check of a program of nothing = %v", got)
	}
	for _, l := range [][]api.Data{nil, {}, {{}}, ty.Datas(api.Prog{})} {
		for _, none := range [][]api.Pat{nil, {}} {
			if v, ok := cover.Missing(l, api.Type{}, none); !ok || v.Kind != api.VaInt || !value.Of(l, v, number()) {
				t.Errorf("of no patterns of int %s, %v is missing", short(v), ok)
			}
			if got := cover.Spare(l, api.Type{}, none); got != -1 {
				t.Errorf("of no patterns %d is spare", got)
			}
		}
		if v, ok := cover.Missing(l, api.Type{}, []api.Pat{{}}); ok || !reflect.DeepEqual(v, api.Value{}) {
			t.Errorf("of the zero pattern %s, %v is missing", short(v), ok)
		}
		if got := cover.Spare(l, api.Type{}, []api.Pat{{}, {}}); got != 1 {
			t.Errorf("of two zero patterns %d is spare", got)
		}
	}
	if l, ok := cover.Takes(api.Pat{}, api.Value{}); l != nil || !ok {
		t.Errorf("Takes of nothing = %s, %v", short(l), ok)
	}
	if l, ok := cover.Takes(rowPat(), rowVal()); l != nil || !ok {
		t.Errorf("Takes of an empty row = %s, %v", short(l), ok)
	}
	if l, ok := cover.Takes(varPat("x"), api.Value{Kind: api.VaBytes, Bytes: []byte{}, Kids: []api.Value{}}); !ok || !reflect.DeepEqual(l, []api.Bind{{Name: "x", Value: api.Value{Kind: api.VaBytes}}}) {
		t.Errorf("Takes of an empty text = %s, %v", short(l), ok)
	}
}
