package value_test

import (
	"math"
	"slices"
	"testing"

	"handloom/api"
	"handloom/value"
)

// same wants two values to be the same, or not, in both orders; both readings must tell so.
func same(t *testing.T, want bool, a, b api.Value) {
	t.Helper()
	if value.Same(a, b) != want || value.Same(b, a) != want || wantSame(a, b) != want {
		t.Errorf("Same of %s and %s is not %v", short(a), short(b), want)
	}
}

// P8.1: values that differ from each other, and not from themselves
func TestSame(t *testing.T) {
	a := con("A")
	l := []api.Value{
		num(0), num(1), num(-1), num(math.MaxInt64), num(math.MinInt64), text(""), text("a"), text("b"), text("ab"), text("\x00"), long(64), long(65), long(1 << 12),
		a, con("B"), con(""), con("a"), con("A", num(1)), con("A", a), con("A", a, a), con("B", a), tuple(), tuple(a), tuple(a, a), tuple(a, con("B")), tuple(con("B"), a),
		tuple(tuple(a), a), tuple(a, tuple(a)), tuple(tuple(a, a)), tuple(tuple(tuple(a), num(1)), text("a")), tuple(tuple(tuple(a), num(1)), text("b")),
		tuple(tuple(tuple(a), num(2)), text("a")), {Kind: 4}, {Kind: -1}, {Name: "A"}, {Bytes: []byte("a")}, {Num: 1, Bytes: []byte("a")}, {Kids: []api.Value{a}},
		{Kids: []api.Value{{}}}, {Kids: []api.Value{{}, {}}}, {Kind: api.VaBytes, Num: 1}, {Kind: api.VaBytes, Name: "A"}, {Kind: api.VaCon, Name: "A", Num: 1},
		{Kind: api.VaCon, Name: "A", Bytes: []byte("a")}, {Kind: api.VaTuple, Name: "A"}, {Kind: 4, Kids: []api.Value{{Kind: 5}}}, {Kind: 4, Kids: []api.Value{{Kind: 6}}},
	}
	for i, x := range l {
		for j, y := range l {
			same(t, i == j, x, twin(y))
			same(t, i == j, tuple(num(1), con("A", x)), tuple(num(1), con("A", y)))
		}
	}
}

// P8.1: an empty list is none
func TestSameOfEmptyLists(t *testing.T) {
	empty := api.Value{Bytes: []byte{}, Kids: []api.Value{}}
	same(t, true, empty, api.Value{})
	same(t, true, tuple(num(1), empty), tuple(num(1), num(0)))
	same(t, false, empty, num(1))
}

// P8.1: each field by itself, at each depth
func TestSameByOneField(t *testing.T) {
	s := sower(521288629)
	l := []api.Value{{Kind: 4, Num: 3, Bytes: []byte("ab"), Name: "A", Kids: []api.Value{{Kind: 1, Num: 3, Bytes: []byte("ab"), Name: "A", Kids: []api.Value{num(1), num(2)}}, num(3)}}}
	for range 40 {
		l = append(l, s.anyValue(edgeNames(), 4))
	}
	seen := map[string]int{}
	for _, x := range l {
		same(t, true, x, twin(x))
		changes(x, func(c api.Value, field string) {
			want := wantSame(x, c)
			same(t, want, x, c)
			if !want {
				seen[field]++
			}
		})
	}
	for _, field := range []string{"Value.Kind", "Value.Num", "Value.Bytes", "Value.Bytes[]", "Value.Name", "Value.Kids"} {
		if seen[field] == 0 {
			t.Errorf("nothing was tried that differs in %s", field)
		}
	}
}

// P8.1: the last part of many, and the deepest one
func TestSameOfManyParts(t *testing.T) {
	wide := tuple(slices.Repeat([]api.Value{num(1)}, many)...)
	other := twin(wide)
	other.Kids[many-1].Num = 2
	fewer := tuple(wide.Kids[:many-1]...)
	if !value.Same(wide, twin(wide)) || value.Same(wide, other) || value.Same(wide, fewer) || value.Same(fewer, wide) {
		t.Error("wide values: the same as others, or not as themselves")
	}
	for _, wrap := range wraps() {
		a, b := nested(many/8, num(1), wrap), nested(many/8, num(2), wrap)
		if !value.Same(a, nested(many/8, num(1), wrap)) || value.Same(a, b) || value.Same(a, wrap(a)) || value.Same(wrap(a), a) {
			t.Error("deep values: the same as others, or not as themselves")
		}
	}
}

// P8.1, 0.1: two that differ are left where they do, here ahead of more parts than can be gone through
func TestSameIsLeft(t *testing.T) {
	v := nested(200, num(1), func(v api.Value) api.Value { return tuple(v, v) })
	if value.Same(tuple(num(1), v), tuple(num(2), v)) || value.Same(con("A", v), con("B", v)) || value.Same(tuple(v), tuple(v, v)) {
		t.Error("great values that differ are the same")
	}
}
