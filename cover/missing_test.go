package cover_test

import (
	"reflect"
	"slices"
	"strconv"
	"strings"
	"testing"

	"handloom/api"
	"handloom/check"
	"handloom/cover"
	"handloom/ty"
	"handloom/value"
)

// answer is what is told of patterns of a type.
type answer struct {
	missing api.Value
	is      bool
	spare   int
}

// ask holds what Missing and Spare tell against the second reading, and is it; P10.4's first half is asked of each.
func ask(t *testing.T, l []api.Data, of api.Type, pats []api.Pat) answer {
	t.Helper()
	v, ok := cover.Missing(l, of, pats)
	a := answer{v, ok, cover.Spare(l, of, pats)}
	missing, spare := newReading(l).want(of, pats)
	if ok != missing || a.spare != spare {
		t.Fatalf("of %s, %s\n %s, %v is missing, %d is spare, want %v, %d", short(of), short(pats), short(v), ok, a.spare, missing, spare)
	}
	if ok && (!value.Of(l, v, of) || len(takers(pats, v)) > 0) {
		t.Fatalf("of %s, %s\n %s can't be missing", short(of), short(pats), short(v))
	}
	if !ok && !reflect.DeepEqual(v, api.Value{}) {
		t.Fatalf("beside false Missing tells %s", short(v))
	}
	return a
}

// asked wants patterns to be such that just one value is missing (or none, or many: "?"), and one of them is spare, or none.
func asked(t *testing.T, of, src, missing string, spare int) {
	t.Helper()
	a := ask(t, home(t), typeOf(t, of), pats(t, src))
	got := value.Text(a.missing)
	if missing == "?" || !a.is {
		got = map[bool]string{true: "?", false: ""}[a.is]
	}
	if strings.ReplaceAll(got, " ", "") != strings.ReplaceAll(missing, " ", "") || a.spare != spare {
		t.Errorf("of %s, %s: %q is missing, %d is spare, want %q, %d", of, src, got, a.spare, missing, spare)
	}
}

// P10.2: the chapter's examples, and what is like them
func TestMissingOfNames(t *testing.T) {
	asked(t, "bool", "True", "False", -1)
	asked(t, "bool", "False", "True", -1)
	asked(t, "bool", "_ | True", "", 1)
	asked(t, "bool", "True | False", "", -1)
	asked(t, "bool", "True | _", "", -1)
	asked(t, "bool", "True | False | _", "", 2)
	asked(t, "bool", "True | True | False", "", 1)
	asked(t, "bool", "True | True", "False", 1)
	asked(t, "bool", "x", "", -1)
	asked(t, "bool", "x | y", "", 1)
	asked(t, "color", "Red | Blue", "Green", -1)
	asked(t, "color", "Green | Red", "Blue", -1)
	asked(t, "color", "Blue | Green | Red", "", -1)
	asked(t, "color", "Blue | x | Green", "", 2)
	asked(t, "color", "Blue", "?", -1)
}

// P10.2: no patterns at all
func TestMissingOfNone(t *testing.T) {
	for _, of := range []string{"int", "bytes", "bool", "act", "list", "tree", "one", "pair", "even", "odd", "six", "(int * bytes)", "((int * list) * (six * tree))"} {
		asked(t, of, "", "?", -1)
		asked(t, of, "_", "", -1)
		asked(t, of, "x", "", -1)
		asked(t, of, "_ | _", "", 1)
		asked(t, of, "x | _ | x", "", 1)
	}
	asked(t, "one", "", "One(\"\")", -1)
}

// P10.2: of numbers there is always one more
func TestMissingOfNumbers(t *testing.T) {
	asked(t, "int", "0 | 1 | 2", "?", -1)
	asked(t, "int", "0 | 1 | 0 | 1", "?", 2)
	asked(t, "int", "~ 4611686018427387903 | 4611686018427387903 | 0 | ~ 1", "?", -1)
	asked(t, "int", "1 | _ | 2", "", 2)
	asked(t, "int", "1 | 2 | x", "", -1)
	asked(t, "int", "1 | 2 | 1 | x", "", 2)
	asked(t, "(int * bool)", "(1, True) | (_, False) | (1, _)", "?", 2)
	asked(t, "(int * bool)", "(1, True) | (_, False) | (2, _)", "?", -1)
	asked(t, "(int * bool)", "(1, True) | (_, False) | (_, True)", "", -1)
	var l []api.Pat
	for n := range int64(100) {
		l = append(l, numPat(n-3), numPat(greatest-n), numPat(-greatest+n))
		ask(t, home(t), number(), l)
		ask(t, home(t), tuple(data("bool"), number()), []api.Pat{rowPat(conPat("True"), anyPat()), rowPat(anyPat(), l[n])})
	}
	for at := range l {
		if got := cover.Spare(nil, number(), append(slices.Clone(l), l[at])); got != len(l) {
			t.Fatalf("of numbers one of which stands there twice %d is spare", got)
		}
	}
}

// P10.2: texts, which no pattern asks for
func TestMissingOfTexts(t *testing.T) {
	asked(t, "bytes", "", "\"\"", -1)
	asked(t, "bytes", "x", "", -1)
	asked(t, "bytes", "x | y", "", 1)
	asked(t, "(bytes * bool)", "(x, True)", "(\"\", False)", -1)
	asked(t, "(bytes * bool)", "(x, True) | (_, False)", "", -1)
	asked(t, "(bytes * bool)", "(x, True) | (y, True)", "(\"\", False)", 1)
	asked(t, "one", "One(x)", "", -1)
	asked(t, "one", "One(x) | One(_)", "", 1)
}

// P10.2: tuples, and what is taken by several together, but by none of them alone
func TestMissingOfTuples(t *testing.T) {
	asked(t, "(bool * bool)", "(x, y)", "", -1)
	asked(t, "(bool * bool)", "(x, y) | _", "", 1)
	asked(t, "(bool * bool)", "_ | (x, y)", "", 1)
	asked(t, "(bool * bool)", "(True, True) | (False, False) | (True, False)", "(False, True)", -1)
	asked(t, "(bool * bool)", "(True, _) | (_, True)", "(False, False)", -1)
	asked(t, "(bool * bool)", "(True, _) | (False, _) | (_, True)", "", 2)
	asked(t, "(bool * bool)", "(True, _) | (False, True) | (_, True) | (False, False)", "", 2)
	asked(t, "(bool * bool)", "(True, True) | (True, False) | (False, _) | (True, _)", "", 3)
	asked(t, "(bool * bool)", "(True, True) | (True, False) | (True, _) | (False, _)", "", 2)
	asked(t, "(bool * bool)", "(_, True) | (_, False) | (True, _) | _", "", 2)
	asked(t, "(color * color)", "(Red, _) | (_, Red) | (Green, Green) | (Blue, Blue) | (Blue, Green)", "(Green, Blue)", -1)
	asked(t, "(color * color * color)", "(Red, _, _) | (_, Red, _) | (_, _, Red) | (Green, _, Green) | (Blue, Green, _) | (_, Blue, Blue)", "?", -1)
	asked(t, "((bool * bool) * bool)", "((True, _), _) | ((_, True), _) | (_, True)", "((False, False), False)", -1)
	asked(t, "((bool * bool) * bool)", "((True, x), y) | ((False, True), _) | ((_, _), True) | ((False, _), False) | (x, y)", "", 4)
	asked(t, "((bool * bool) * (bool * bool))", "((a, True), _) | (_, (b, True)) | ((True, False), (True, False)) | ((False, False), (_, False))", "((True, False), (False, False))", -1)
}

// P10.2: constructors with fields, types made of themselves and of each other
func TestMissingOfRecords(t *testing.T) {
	asked(t, "list", "Nil", "?", -1)
	asked(t, "list", "Cons(_, _)", "Nil", -1)
	asked(t, "list", "Nil | Cons(x, r)", "", -1)
	asked(t, "list", "Nil | Cons(1, r)", "?", -1)
	asked(t, "list", "Nil | Cons(_, Nil) | Cons(_, Cons(_, _))", "", -1)
	asked(t, "list", "Cons(_, Nil) | Cons(_, Cons(_, _))", "Nil", -1)
	asked(t, "list", "Nil | Cons(_, Cons(_, Cons(_, _))) | Cons(1, Nil) | Cons(x, Nil)", "?", -1)
	asked(t, "list", "Nil | Cons(_, Cons(_, Cons(_, _))) | Cons(_, Nil) | Cons(1, Nil) | Cons(_, Cons(_, Nil))", "", 3)
	asked(t, "list", "Cons(_, Nil) | Nil | Cons(_, Cons(_, _)) | Cons(3, _)", "", 3)
	asked(t, "list", "Nil | Cons(1, _) | Cons(_, Nil) | Cons(1, Nil) | Cons(2, _)", "?", 3)
	asked(t, "even", "Zero | Even(Odd(Even(_)))", "Even(Odd(Zero))", -1)
	asked(t, "odd", "Odd(Zero) | Odd(Even(Odd(Zero))) | Odd(Even(Odd(Even(_))))", "", -1)
	asked(t, "odd", "Odd(Zero) | Odd(Even(Odd(Even(_))))", "Odd(Even(Odd(Zero)))", -1)
	asked(t, "pair", "Pair(Red, _) | Pair(_, True) | Swap(_, _) | Pair(Blue, _)", "Pair(Green, False)", -1)
	asked(t, "pair", "Pair(_, True) | Pair(_, False) | Swap(True, _) | Pair(Red, x) | Swap(_, _)", "", 3)
	asked(t, "tree", "Leaf | Node(Leaf, (_, _), _) | Node(_, _, Leaf) | Node(Node(_, _, _), (0, _), Node(_, _, _))", "?", -1)
	asked(t, "tree", "Node(a, (b, c), d) | Leaf | Node(Leaf, x, Leaf)", "", 2)
	asked(t, "act", "Done | Say(_, _) | Tell(_, _) | Arm(_, _, _)", "?", -1)
	asked(t, "act", "Done | Say(_, _) | Tell(_, _) | Arm(_, _, _) | Stop(_, _)", "", -1)
	asked(t, "act", "Say(1, Done) | Say(_, Done) | Say(1, Done) | Say(2, Done)", "?", 2)
	asked(t, "six", "Six(1, _, Nil, Leaf, _, (_, True)) | Six(_, b, Cons(_, _), _, One(x), _) | Six(_, _, _, _, _, (_, False))", "?", -1)
	asked(t, "six", "Six(_, _, Nil, _, _, (_, True)) | Six(_, b, Cons(_, _), _, One(x), _) | Six(_, _, _, _, _, (_, False))", "", -1)
}

// P10.2: of several that are spare the first one is told
func TestFirstSpare(t *testing.T) {
	asked(t, "color", "Red | Red | Green | Green | _ | _", "", 1)
	asked(t, "color", "Red | Green | Green | Red | _ | _", "", 2)
	asked(t, "color", "Red | Green | Blue | _ | _", "", 3)
	asked(t, "color", "_ | _ | Red | Red", "", 1)
	asked(t, "int", "5 | 6 | 7 | 6 | 5", "?", 3)
	asked(t, "(bool * bool)", "(True, _) | (_, True) | (True, True) | (False, True)", "(False, False)", 2)
	asked(t, "list", "Nil | Cons(_, _) | Nil | _", "", 2)
}

// P10.4, P10.5: many patterns of many types
func TestManyPatterns(t *testing.T) {
	s := sower(362436069)
	homes := maker{sower: &s, all: home(t)}
	type sort struct {
		is    bool
		spare int
	}
	seen := map[sort]int{}
	for i := range 20000 {
		m, of := homes, homes.aType()
		if i%2 == 1 {
			m = maker{sower: &s, all: s.someTypes()}
			of = pick(&s, data(m.all[2].Name), data(m.all[len(m.all)-1].Name), tuple(data(m.all[2].Name), data("bool")))
		}
		l := m.somePats(of)
		for _, p := range l {
			if _, f := check.Binds(m.all, p, of); f != (api.Fault{}) {
				t.Fatalf("%s is no pattern of %s: %v", short(p), short(of), f)
			}
		}
		a := ask(t, m.all, of, l)
		witness(t, &m, of, l, a)
		without(t, &m, of, l, a)
		seen[sort{a.is, min(a.spare, 3)}]++
	}
	for _, is := range []bool{false, true} {
		for _, spare := range []int{-1, 1, 2, 3} {
			if n := seen[sort{is, spare}]; n < 100 {
				t.Errorf("with missing %v, spare %d there were %d: too few", is, spare, n)
			}
		}
	}
}

// witness holds what is missing against values that look like chance.
func witness(t *testing.T, m *maker, of api.Type, l []api.Pat, a answer) {
	t.Helper()
	for range 5 {
		v := m.aValue(of, 4)
		if !value.Of(m.all, v, of) {
			t.Fatalf("%s is not of %s", short(v), short(of))
		}
		at := takers(l, v)
		if !a.is && len(at) == 0 {
			t.Fatalf("of %s, %s\n nothing is missing, but no pattern takes %s", short(of), short(l), short(v))
		}
		if a.spare >= 0 && len(at) > 0 && at[0] == a.spare {
			t.Fatalf("of %s, %s\n %d is spare, but takes %s", short(of), short(l), a.spare, short(v))
		}
	}
}

// without holds what is told against what is told without the first spare pattern, and behind one that takes all.
func without(t *testing.T, m *maker, of api.Type, l []api.Pat, a answer) {
	t.Helper()
	if a.spare >= 0 {
		fewer := slices.Delete(slices.Clone(l), a.spare, a.spare+1)
		if _, is := cover.Missing(m.all, of, fewer); is != a.is {
			t.Fatalf("of %s, %s\n without %d, which is spare, %v is missing", short(of), short(l), a.spare, is)
		}
		for range 5 {
			v := m.aValue(of, 4)
			if (len(takers(l, v)) > 0) != (len(takers(fewer, v)) > 0) {
				t.Fatalf("of %s, %s\n without %d, which is spare, %s is not taken as before", short(of), short(l), a.spare, short(v))
			}
		}
		if next := cover.Spare(m.all, of, fewer); next >= 0 && next < a.spare {
			t.Fatalf("of %s, %s\n %d is spare, and without it %d", short(of), short(l), a.spare, next)
		}
	}
	at := m.below(len(l) + 1)
	more := slices.Insert(slices.Clone(l), at, pick(m.sower, anyPat(), varPat("x")))
	got := cover.Spare(m.all, of, more)
	if got < 0 && len(l) > at || got > at+1 {
		t.Fatalf("of %s, %s\n %d is spare, but %d takes all", short(of), short(more), got, at)
	}
	if _, is := cover.Missing(m.all, of, more); is {
		t.Fatalf("of %s, %s\n something is missing, but %d takes all", short(of), short(more), at)
	}
}

// P10.4: with what is missing made a pattern, and that again, small types are gone through to their end
func TestMissingOneByOne(t *testing.T) {
	l := home(t)
	for of, count := range map[string]int{"bool": 2, "color": 3, "(bool * color)": 6, "pair": 12, "(color * (bool * pair))": 72} {
		of := typeOf(t, of)
		var made []api.Pat
		for {
			v, ok := cover.Missing(l, of, made)
			if got := cover.Spare(l, of, made); got >= 0 {
				t.Fatalf("of %s, %s\n %d is spare", short(of), short(made), got)
			}
			if !ok {
				break
			}
			p, _ := patOf(v)
			if !value.Of(l, v, of) || len(takers(made, v)) > 0 {
				t.Fatalf("of %s, %s\n %s can't be missing", short(of), short(made), short(v))
			}
			made = append(made, p)
		}
		if len(made) != count {
			t.Errorf("of %s there are %d values, want %d", short(of), len(made), count)
		}
	}
}

// sunk is a type at the bottom of so many tuples.
func sunk(depth int, t api.Type) api.Type {
	return nested(depth, t, func(t api.Type) api.Type { return tuple(t, number()) })
}

// chain is types each of which is made of the next one, which lies so deep; the last one has a name alone. The first is c0.
func chain(count, depth int) []api.Data {
	l := ty.Datas(api.Prog{})
	for i := range count {
		l = append(l, typed("c"+strconv.Itoa(i), con("C"+strconv.Itoa(i), sunk(depth, data("c"+strconv.Itoa(i+1))))))
	}
	return append(l, typed("c"+strconv.Itoa(count), con("Z")))
}

func right(t *testing.T, l []api.Data) {
	t.Helper()
	if f := ty.Check(api.Prog{Queue: 1, Datas: l[2:]}); f != (api.Fault{}) {
		t.Fatalf("%s can't be: %v", short(l), f)
	}
}

// only wants a type to have values (of this many parts, if it is above 0), or none that are values.
func only(t *testing.T, l []api.Data, of api.Type, has bool, parts int) {
	t.Helper()
	right(t, l)
	v, ok := cover.Missing(l, of, nil)
	if ok != has || ok != value.Of(l, v, of) && of.Kind != api.TyInt {
		t.Errorf("of %s %s, %v is missing", short(of), short(v), ok)
	}
	if n := partsOf(v); ok && parts > 0 && n != parts {
		t.Errorf("of %s a value of %d parts is missing, want %d", short(of), n, parts)
	}
	for _, p := range []api.Pat{anyPat(), varPat("x")} {
		if v, ok := cover.Missing(l, of, []api.Pat{p}); ok {
			t.Errorf("of %s %s is missing, but all is taken", short(of), short(v))
		}
		// what has no values is taken by none
		if got, want := cover.Spare(l, of, []api.Pat{p, p}), map[bool]int{true: 1, false: 0}[has]; got != want {
			t.Errorf("of %s %d is spare, want %d", short(of), got, want)
		}
	}
}

func partsOf(v api.Value) int {
	count := 1
	for _, kid := range v.Kids {
		count += partsOf(kid)
	}
	return count
}

// P10.2, P10.4: types with values of great depth only: as deep as a value may be, and deeper
func TestMissingOfDeepTypes(t *testing.T) {
	for _, c := range []struct {
		count, depth int
		has          bool
	}{
		{1, 0, true}, {1, 62, true}, {15, 62, true}, {31, 31, true}, {31, 30, true}, {30, 32, true}, // 31 * 32 + 1, 31 * 31 + 1, 30 * 33 + 1 deep
		{15, 63, true}, {16, 62, false}, {31, 32, false}, {31, 62, false}, {27, 36, true}, {27, 37, false}, // 27 * 37 + 1, 27 * 38 + 1
	} {
		l := chain(c.count, c.depth)
		only(t, l, data("c0"), c.has, 0)
		one := []api.Pat{conPat("C0", anyPat())}
		if v, ok := cover.Missing(l, data("c0"), one); ok {
			t.Errorf("of a chain %s is missing, but its one constructor is there", short(v))
		}
		if got := cover.Spare(l, data("c0"), one); (got < 0) != c.has {
			t.Errorf("of a chain of %d, %d: the one constructor: %d is spare", c.count, c.depth, got)
		}
	}
}

// P10.2: values just as deep as they may be are there, and one deeper are not
func TestMissingAtTheEdge(t *testing.T) {
	l := chain(27, 36)                                             // c0's values are 1000 deep, c1's 963
	l[3].Cons = append(l[3].Cons, con("D1", sunk(37, data("c2")))) // and D1's 964
	right(t, l)
	within := func(p api.Pat) api.Pat {
		return conPat("C0", nested(36, p, func(p api.Pat) api.Pat { return rowPat(p, anyPat()) }))
	}
	c1, d1 := conPat("C1", anyPat()), conPat("D1", varPat("x"))
	for _, c := range []struct {
		of    string
		pats  []api.Pat
		is    bool
		spare int
	}{
		{"c1", []api.Pat{c1}, true, -1},
		{"c1", []api.Pat{c1, d1}, false, -1},
		{"c1", []api.Pat{d1, c1, anyPat()}, false, 2},
		{"c0", []api.Pat{within(c1)}, false, -1},
		{"c0", []api.Pat{within(anyPat()), within(anyPat())}, false, 1},
		{"c0", []api.Pat{within(c1), within(d1)}, false, 1},
		{"c0", []api.Pat{within(c1), anyPat()}, false, 1},
		{"c0", []api.Pat{within(d1)}, true, 0},
		{"c0", []api.Pat{within(d1), within(c1)}, false, 0},
	} {
		for _, p := range c.pats {
			if _, f := check.Binds(l, p, data(c.of)); f != (api.Fault{}) {
				t.Fatalf("%s is no pattern: %v", short(p), f)
			}
		}
		v, is := cover.Missing(l, data(c.of), c.pats)
		if got := cover.Spare(l, data(c.of), c.pats); is != c.is || got != c.spare || is && !value.Of(l, v, data(c.of)) {
			t.Errorf("of %s, %s: %v is missing, %d is spare, want %v, %d", c.of, short(c.pats), is, got, c.is, c.spare)
		}
	}
	only(t, l, tuple(data("c0"), data("bool")), false, 0) // 1001 deep
	only(t, l, tuple(data("c1"), data("bool")), true, 0)
}

// P10.4: of what is missing there are as few parts as can be, as long as it is not too deep
func TestMissingIsSmall(t *testing.T) {
	wide := func(count int, name string) []api.Data {
		var l []api.Data
		for i := range count {
			next := data(name + strconv.Itoa(i+1))
			l = append(l, typed(name+strconv.Itoa(i), con(strings.ToUpper(name)+strconv.Itoa(i), next, next, next, next, next, next)))
		}
		return append(l, typed(name+strconv.Itoa(count), con(strings.ToUpper(name)+"Z")))
	}
	// of the one constructor values are less deep, but have more parts than there is room for
	l := append(chain(12, 9), wide(15, "w")...)
	l = append(l, typed("it", con("Wide", data("w0")), con("Long", data("c0"))))
	only(t, l, data("it"), true, 12*(1+2*9)+2)
	l[len(l)-1].Cons[0], l[len(l)-1].Cons[1] = l[len(l)-1].Cons[1], l[len(l)-1].Cons[0]
	only(t, l, data("it"), true, 12*(1+2*9)+2)
	// of the one constructor values have fewer parts, but are too deep
	l = append(chain(20, 60), wide(5, "w")...)
	l = append(l, typed("it", con("Long", data("c0")), con("Wide", data("w0"))))
	only(t, l, data("it"), true, 1+1+6+36+216+1296+7776)
	if got := cover.Spare(l, data("it"), []api.Pat{conPat("Long", anyPat()), anyPat()}); got != 0 {
		t.Errorf("of a constructor without values %d is spare", got)
	}
	if v, ok := cover.Missing(l, data("it"), []api.Pat{conPat("Wide", anyPat())}); ok {
		t.Errorf("%s is missing, which is too deep", short(v))
	}
	asked(t, "tree", "", "Leaf", -1)
	asked(t, "tree", "Leaf", "Node(Leaf, (0, \"\"), Leaf)", -1)
	asked(t, "list", "Nil | Cons(_, Cons(_, _)) | Cons(0, _)", "Cons(1, Nil)", -1)
}

// 0.1: a type whose values have more parts than there is room for: what is told of it comes to an end
func TestMissingOfGreatTypes(t *testing.T) {
	l := ty.Datas(api.Prog{})
	for i := range 31 {
		next := data("w" + strconv.Itoa(i+1))
		l = append(l, typed("w"+strconv.Itoa(i), con("W"+strconv.Itoa(i), next, next, next, next, next, next)))
	}
	l = append(l, typed("w31", con("Z"), con("Y")))
	right(t, l)
	if _, ok := cover.Missing(l, data("w0"), nil); !ok {
		t.Error("of a type of great values none is missing")
	}
	six := func(p api.Pat) api.Pat { return conPat("W0", p, p, p, p, p, p) }
	for _, c := range []struct {
		pats  []api.Pat
		is    bool
		spare int
	}{
		{[]api.Pat{six(anyPat())}, false, -1}, {[]api.Pat{six(anyPat()), anyPat()}, false, 1}, {[]api.Pat{six(conPat("W1", blanks(6)...)), anyPat()}, false, 1},
		{[]api.Pat{}, true, -1},
	} {
		_, is := cover.Missing(l, data("w0"), c.pats)
		if got := cover.Spare(l, data("w0"), c.pats); is != c.is || got != c.spare {
			t.Errorf("of %s: %v is missing, %d is spare, want %v, %d", short(c.pats), is, got, c.is, c.spare)
		}
	}
	// 6^7 parts can be told
	v, ok := cover.Missing(l, data("w24"), nil)
	if count := partsOf(v); !ok || count != (6*6*6*6*6*6*6*6-1)/5 {
		t.Errorf("a value of %d parts is missing", count)
	}
}
