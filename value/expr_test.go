package value_test

import (
	"math"
	"reflect"
	"slices"
	"strings"
	"testing"

	"handloom/api"
	"handloom/show"
	"handloom/value"
)

// writes wants a value to be an expression, with a text, or not; both readings must tell so.
func writes(t *testing.T, can bool, v api.Value) {
	t.Helper()
	e, ok := value.Expr(v)
	want, wantOk := wantExpr(v)
	if ok != can || wantOk != can || !reflect.DeepEqual(e, want) {
		t.Errorf("Expr(%s) = %s, %v, want %s, %v", short(v), short(e), ok, short(want), can)
	}
	if got := value.Text(v); got != wantText(v) || (got != "") != can || got != show.Expr(e) && can {
		t.Errorf("Text(%s) = %q, want %q", short(v), short(got), short(wantText(v)))
	}
}

// P8.3: values of each kind, and their texts
func TestText(t *testing.T) {
	for want, v := range map[string]api.Value{
		"0": num(0), "7": num(7), "~ 7": num(-7), "4611686018427387903": num(1<<62 - 1), "~ 4611686018427387903": num(1 - 1<<62),
		`""`: text(""), `"ab"`: text("ab"), `"\x0a\"\\\xff\x00 ~"`: text("\n\"\\\xff\x00 ~"), `"\xc3\xa9"`: text("é"),
		"Nil": con("Nil"), "Cons ( 1 , Nil )": con("Cons", num(1), con("Nil")), "( 1 , 2 )": tuple(num(1), num(2)), "Aé_1 ( ~ 1 )": con("Aé_1", num(-1)),
		"( ( 1 , ~ 2 ) , A ( ( \"a\" , B ) ) , 3 )": tuple(tuple(num(1), num(-2)), con("A", tuple(text("a"), con("B"))), num(3)),
	} {
		writes(t, true, v)
		if got := value.Text(v); got != want {
			t.Errorf("Text(%s) = %q, want %q", short(v), got, want)
		}
	}
	e, ok := value.Expr(con("A", num(-3), tuple(text("b"), num(0))))
	pair := api.Expr{Kind: api.ExTuple, Kids: []api.Expr{{Kind: api.ExBytes, Bytes: []byte("b")}, {Kind: api.ExInt}}}
	want := api.Expr{Kind: api.ExCon, Name: "A", Kids: []api.Expr{{Kind: api.ExInt, Num: -3}, pair}}
	if !ok || !reflect.DeepEqual(e, want) {
		t.Errorf("Expr = %s, %v, want %s", short(e), ok, short(want))
	}
}

// unwritten are values that no text can be.
func unwritten() []api.Value {
	one := []api.Value{num(1)}
	return []api.Value{
		num(-1 << 62), num(1 << 62), num(math.MaxInt64), num(math.MinInt64), long(65), con(""), con("a"), con("cons"), con("A B"), con("A\n"), con("É"), con("_"), con("1"), con("\xff"),
		con("A" + strings.Repeat("b", 24)), con("in"), tuple(), tuple(num(1)), tuple(slices.Repeat(one, 7)...), con("A", slices.Repeat(one, 7)...), {Kind: 4}, {Kind: -1},
		{Kind: 4, Kids: []api.Value{num(1), num(2)}}, {Kind: 9, Num: 1, Kids: []api.Value{num(1), num(2)}}, {Kind: 8, Name: "A"}, {Kind: math.MaxInt}, {Kind: math.MinInt}, {Kind: 4, Name: "x"},
		{Name: "A"}, {Bytes: []byte("a")}, {Kids: one}, {Kind: api.VaBytes, Num: 1}, {Kind: api.VaBytes, Name: "A"}, {Kind: api.VaBytes, Kids: one},
		{Kind: api.VaCon, Name: "A", Num: 1}, {Kind: api.VaCon, Name: "A", Bytes: []byte("a")}, {Kind: api.VaTuple, Name: "A", Kids: []api.Value{num(1), num(2)}},
		{Kind: api.VaTuple, Num: 1, Kids: []api.Value{num(1), num(2)}}, {Kind: api.VaTuple, Bytes: []byte{0}, Kids: []api.Value{num(1), num(2)}},
	}
}

// P8.3: what can't be written, at any depth, and what is told beside false
func TestUnwritten(t *testing.T) {
	for _, v := range unwritten() {
		writes(t, false, v)
		for _, wrap := range wraps() {
			for _, depth := range []int{1, 2, 20} {
				writes(t, false, nested(depth, v, wrap))
			}
		}
	}
}

// P8.3: the edges of what is fit
func TestExprAtTheEdges(t *testing.T) {
	for _, v := range []api.Value{
		{}, num(1<<62 - 1), num(1 - 1<<62), long(64), long(0), con("A" + strings.Repeat("b", 23)), con("A", some(6, func() api.Value { return num(1) })...),
		tuple(some(6, func() api.Value { return con("A") })...), con("State"), con("A_é9"), {Kind: api.VaBytes, Bytes: []byte{}, Kids: []api.Value{}},
	} {
		writes(t, true, v)
		for _, wrap := range wraps() {
			writes(t, true, nested(5, v, wrap))
		}
	}
	for _, depth := range []int{62, 63, 64, 65, 999, 1 << 12} {
		for _, wrap := range wraps()[:4] {
			writes(t, depth < 64, nested(depth, num(1), wrap))
		}
		writes(t, depth < 64, row(depth+1))
	}
}

// P8.3: values of any form, and each field of some by itself
func TestExprOfAnyForm(t *testing.T) {
	s := sower(123456789)
	seen := map[bool]int{}
	ask := func(v api.Value) {
		_, can := wantExpr(v)
		writes(t, can, v)
		seen[can]++
	}
	for i := range 3000 {
		v := s.anyValue(edgeNames(), 4)
		if i%2 == 0 {
			v = s.fitValue(1 + i%4)
		}
		ask(v)
		if i%50 == 0 {
			changes(s.fitValue(3), func(c api.Value, _ string) { ask(c) })
		}
	}
	if seen[true] < 1000 || seen[false] < 1000 {
		t.Errorf("of %v values too few can be written, or can't", seen)
	}
}
