package cover_test

import (
	"math"
	"reflect"
	"testing"

	"handloom/api"
	"handloom/cover"
)

// takesIs holds what Takes tells against the second reading, and is it.
func takesIs(t *testing.T, p api.Pat, v api.Value) ([]api.Bind, bool) {
	t.Helper()
	got, ok := cover.Takes(p, v)
	want, wantOk := wantTakes(p, v)
	if ok != wantOk || !reflect.DeepEqual(got, want) {
		t.Fatalf("Takes(%s, %s)\n = %s, %v, want\n   %s, %v", short(p), short(v), short(got), ok, short(want), wantOk)
	}
	return got, ok
}

// taken wants a pattern to take a value, and to give such names.
func taken(t *testing.T, p api.Pat, v api.Value, names ...api.Bind) {
	t.Helper()
	if got, ok := takesIs(t, p, v); !ok || !reflect.DeepEqual(got, names) {
		t.Errorf("Takes(%s, %s) = %s, %v, want %s", short(p), short(v), short(got), ok, short(names))
	}
}

func notTaken(t *testing.T, p api.Pat, v api.Value) {
	t.Helper()
	if got, ok := takesIs(t, p, v); ok || got != nil {
		t.Errorf("Takes(%s, %s) = %s, %v, want nothing", short(p), short(v), short(got), ok)
	}
}

func bind(name string, v api.Value) api.Bind { return api.Bind{Name: name, Value: v} }

// someValues is values of each kind, in one another, no two of which are the same.
func someValues(t *testing.T) []api.Value {
	t.Helper()
	var l []api.Value
	for _, src := range []string{
		"0", "1", "~ 1", "4611686018427387903", "\"\"", "\"a\"", "True", "Nil", "Cons(1, Nil)", "Cons(2, Nil)", "Cons(1, Cons(1, Nil))", "Const(1, Nil)",
		"(1, 2)", "(2, 1)", "(1, 2, 3)", "(1, (2, 3))", "((1, 2), 3)", "(Nil, \"a\")", "One(1)", "One(1, 1)", "One((1, 1))",
	} {
		l = append(l, val(t, src))
	}
	return append(l, numVal(-1<<62), rowVal(), rowVal(numVal(1)))
}

// P10.1: PtAny and PtVar take any value
func TestTakesAny(t *testing.T) {
	for _, v := range append(someValues(t), api.Value{Kind: 9}, api.Value{Kind: -1, Num: math.MinInt64, Name: "x"}) {
		taken(t, anyPat(), v)
		taken(t, varPat("x"), v, bind("x", v))
		taken(t, rowPat(varPat("y"), anyPat(), varPat("x")), rowVal(v, v, numVal(1)), bind("y", v), bind("x", numVal(1)))
	}
}

// P10.1: of patterns that are values each takes just its own
func TestTakesItsOwn(t *testing.T) {
	l := someValues(t)
	for i, v := range l {
		p, ok := patOf(v)
		if !ok {
			continue
		}
		for k, other := range l {
			if i == k {
				taken(t, p, other)
				continue
			}
			notTaken(t, p, other)
		}
	}
}

// patOf is a pattern that takes a value alone; false: there is none.
func patOf(v api.Value) (api.Pat, bool) {
	p := api.Pat{Kind: map[int]int{api.VaInt: api.PtInt, api.VaCon: api.PtCon, api.VaTuple: api.PtTuple}[v.Kind], Num: v.Num, Name: v.Name}
	for _, kid := range v.Kids {
		k, ok := patOf(kid)
		if !ok {
			return api.Pat{}, false
		}
		p.Kids = append(p.Kids, k)
	}
	return p, v.Kind != api.VaBytes
}

// P10.1: numbers
func TestTakesNumbers(t *testing.T) {
	edges := []int64{0, 1, -1, 2, 1 << 32, greatest, -greatest, -greatest - 1, greatest + 1, math.MaxInt64, math.MinInt64}
	for _, n := range edges {
		for _, k := range edges {
			if n == k {
				taken(t, numPat(n), numVal(k))
				continue
			}
			notTaken(t, numPat(n), numVal(k))
		}
		notTaken(t, numPat(n), textVal(""))
		notTaken(t, numPat(n), api.Value{Kind: api.VaCon, Num: n})
		notTaken(t, numPat(n), api.Value{Kind: api.VaTuple, Num: n})
	}
}

// P10.1: another kind, another Name, one Kid more or fewer, a Kid that is not taken
func TestTakesRecords(t *testing.T) {
	kids := []api.Value{numVal(1), numVal(2)}
	taken(t, conPat("A", varPat("x"), varPat("y")), conVal("A", kids...), bind("x", kids[0]), bind("y", kids[1]))
	taken(t, rowPat(varPat("x"), varPat("y")), rowVal(kids...), bind("x", kids[0]), bind("y", kids[1]))
	taken(t, conPat("A"), conVal("A"))
	taken(t, rowPat(), rowVal())
	for _, p := range []api.Pat{conPat("A", anyPat(), anyPat()), conPat("A", varPat("x"), numPat(2))} {
		for _, v := range []api.Value{
			conVal("B", kids...), conVal("", kids...), conVal("AA", kids...), conVal("a", kids...), conVal("A"), conVal("A", kids[0]), conVal("A", kids[0], kids[1], kids[1]),
			rowVal(kids...), {Kind: api.VaTuple, Name: "A", Kids: kids}, {Kind: api.VaInt, Name: "A", Kids: kids}, {Kind: api.VaBytes, Name: "A", Kids: kids}, {Kind: 4, Name: "A", Kids: kids},
			conVal("A", rowVal(kids...)), conVal("B", conVal("A", kids...)), numVal(1), textVal("A"),
		} {
			notTaken(t, p, v)
		}
	}
	for _, p := range []api.Pat{rowPat(anyPat(), anyPat()), rowPat(numPat(1), varPat("x"))} {
		for _, v := range []api.Value{
			rowVal(), rowVal(kids[0]), rowVal(kids[0], kids[1], kids[1]), conVal("A", kids...), conVal("", kids...), {Kind: api.VaInt, Kids: kids}, {Kind: 4, Kids: kids}, rowVal(rowVal(kids...)),
		} {
			notTaken(t, p, v)
		}
	}
	notTaken(t, conPat("A", varPat("x"), numPat(1)), conVal("A", kids...))
	notTaken(t, rowPat(numPat(2), varPat("x")), rowVal(kids...))
	notTaken(t, rowPat(varPat("x"), rowPat(varPat("y"), numPat(3))), rowVal(kids[0], rowVal(kids...)))
	notTaken(t, conPat("A", conPat("A", varPat("x"))), conVal("A", conVal("A")))
}

// P10.1: names come from the left, however deep they stand, and as often as they stand there
func TestTakesNames(t *testing.T) {
	v := val(t, "((1, Cons(2, Cons(3, Nil))), \"a\", Node(Leaf, (4, \"b\"), Leaf))")
	p := pats(t, "((a, Cons(b, Cons(c, d))), e, Node(f, (g, _), h))")[0]
	taken(t, p, v, bind("a", numVal(1)), bind("b", numVal(2)), bind("c", numVal(3)), bind("d", conVal("Nil")), bind("e", textVal("a")),
		bind("f", conVal("Leaf")), bind("g", numVal(4)), bind("h", conVal("Leaf")))
	taken(t, pats(t, "((z, y), x, w)")[0], v, bind("z", numVal(1)), bind("y", val(t, "Cons(2, Cons(3, Nil))")), bind("x", textVal("a")), bind("w", v.Kids[2]))
	taken(t, rowPat(varPat("x"), varPat(""), varPat("x"), varPat("X")), rowVal(numVal(1), numVal(2), numVal(3), numVal(4)),
		bind("x", numVal(1)), bind("", numVal(2)), bind("x", numVal(3)), bind("X", numVal(4)))
}

// P10.1: patterns of no kind take nothing; what their kind does not have counts for nothing
func TestTakesOfAnyForm(t *testing.T) {
	kids := []api.Pat{varPat("y"), {Kind: 7}}
	for _, v := range someValues(t) {
		for _, kind := range []int{5, 6, -1, math.MaxInt, math.MinInt} {
			notTaken(t, api.Pat{Kind: kind}, v)
			notTaken(t, api.Pat{Kind: kind, Name: v.Name, Num: v.Num, Kids: make([]api.Pat, len(v.Kids))}, v)
			notTaken(t, rowPat(varPat("x"), api.Pat{Kind: kind}), rowVal(v, v))
		}
		taken(t, api.Pat{Name: "x", Num: 7, Kids: kids}, v)
		taken(t, api.Pat{Kind: api.PtVar, Name: "x", Num: 7, Kids: kids}, v, bind("x", v))
	}
	taken(t, api.Pat{Kind: api.PtInt, Name: "x", Num: 7, Kids: kids}, numVal(7))
	taken(t, api.Pat{Kind: api.PtInt, Num: 7}, api.Value{Num: 7, Name: "A", Bytes: []byte("a"), Kids: []api.Value{numVal(1)}})
	taken(t, api.Pat{Kind: api.PtCon, Num: 7, Name: "A"}, api.Value{Kind: api.VaCon, Num: 8, Name: "A", Bytes: []byte("a")})
	taken(t, api.Pat{Kind: api.PtTuple, Num: 7, Name: "A"}, api.Value{Kind: api.VaTuple, Num: 8, Name: "B", Bytes: []byte("a")})
	odd := api.Value{Kind: 9, Num: math.MinInt64, Name: "\xff", Bytes: []byte("a"), Kids: []api.Value{{Kind: -1, Bytes: []byte("b")}}}
	taken(t, varPat("x"), odd, bind("x", odd))
}

// P10.1: each field of some patterns and values by itself
func TestTakesByOneField(t *testing.T) {
	for p, v := range map[string]string{
		"((x, Cons(2, Cons(y, _))), z, Nil)":  "((1, Cons(2, Cons(3, Nil))), \"a\", Nil)",
		"Node(Node(_, (1, s), r), (n, _), _)": "Node(Node(Leaf, (1, \"a\"), Leaf), (2, \"\"), Leaf)",
		"Cons(~ 1, Cons(0, r))":               "Cons(~ 1, Cons(0, Cons(5, Nil)))",
	} {
		p, v := pats(t, p)[0], val(t, v)
		if _, ok := takesIs(t, p, v); !ok {
			t.Errorf("%s takes not %s", short(p), short(v))
		}
		changes(p, func(p api.Pat) { takesIs(t, p, v) })
		changes(v, func(v api.Value) { takesIs(t, p, v) })
	}
}

// P10.1: patterns and values of any form
func TestTakesOfMany(t *testing.T) {
	s := sower(88172645463325252)
	yes, no, names := 0, 0, 0
	for range 60000 {
		p := s.anyPattern(4)
		l, ok := takesIs(t, p, s.valueFor(p))
		if ok {
			yes++
		} else {
			no++
		}
		names += len(l)
	}
	if yes < 5000 || no < 5000 || names < 5000 {
		t.Errorf("%d were taken, %d were not, %d names were given: too few", yes, no, names)
	}
}
