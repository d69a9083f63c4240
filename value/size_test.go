package value_test

import (
	"math"
	"testing"

	"handloom/api"
	"handloom/value"
)

// has wants a value to have so many words, held against any most; both readings must tell so.
func has(t *testing.T, v api.Value, count int) {
	t.Helper()
	for _, most := range []int{
		math.MinInt, -1000, -2, -1, 0, 1, 2, 3, 4, 5, 8, 10, 64, 256, count / 2, count - 2, count - 1, count, count + 1, count + 2, 2 * count, 1 << 31, math.MaxInt,
	} {
		want := max(most, 0)
		if count > want {
			want++
		} else {
			want = count
		}
		if got := value.Size(v, most); got != want || wantSize(v, most) != want {
			t.Errorf("Size(%s, %d) = %d, want %d", short(v), most, got, want)
		}
	}
}

// P8.2: values of each kind, and the chapter's example
func TestSize(t *testing.T) {
	for src, count := range map[string]int{
		"0": 0, "~4611686018427387903": 0, "Nil": 0, "\"\"": 2, "\"a\"": 3, "Cons(1, Nil)": 4, "Cons(1, Cons(2, Nil))": 8, "(1, 2)": 4, "(1, 2, 3)": 5,
		"A(1)": 3, "A(Nil)": 3, "A(\"\")": 5, "A(\"abcdefghi\")": 7, "A(A(A(A)))": 9, "(\"a\", \"b\")": 10, "A(1, 2, 3, 4, 5, 6)": 8,
		"((1, 2), (3, 4))": 12, "(A(1), B, \"abc\")": 11, "Node(Leaf, (1, Cons(2, Nil)), Leaf)": 13,
	} {
		has(t, val(t, src), count)
	}
	has(t, row(1000), 4*999)
}

// P8.2: texts around each 8 bytes
func TestSizeOfTexts(t *testing.T) {
	for count, size := range map[int]int{
		0: 2, 1: 3, 7: 3, 8: 3, 9: 4, 15: 4, 16: 4, 17: 5, 24: 5, 25: 6, 32: 6, 33: 7, 40: 7, 41: 8, 48: 8, 49: 9, 56: 9, 57: 10, 63: 10, 64: 10, 65: 11, 72: 11, 73: 12, 1 << 16: 2 + 1<<13,
	} {
		has(t, long(count), size)
		has(t, tuple(long(count), num(1)), size+4)
	}
}

// P8.2: what has Kids, and what has none, whatever stands beside them
func TestSizeOfAnyKind(t *testing.T) {
	has(t, api.Value{}, 0)
	has(t, tuple(), 2)
	has(t, api.Value{Kind: api.VaTuple, Name: "A", Num: 4, Bytes: []byte("abc")}, 2)
	has(t, api.Value{Kind: api.VaCon, Num: 4, Bytes: []byte("abc")}, 0)
	has(t, api.Value{Kind: api.VaCon, Num: 4, Bytes: []byte("abc"), Kids: []api.Value{{}}}, 3)
	has(t, api.Value{Kind: api.VaInt, Num: math.MinInt64, Name: "A", Bytes: []byte("abc")}, 0)
	kids := []api.Value{long(9), num(1), con("A", num(1)), tuple()}
	has(t, api.Value{Kind: api.VaInt, Kids: kids}, 0)
	has(t, api.Value{Kind: api.VaBytes, Kids: kids}, 2)
	has(t, api.Value{Kind: api.VaBytes, Bytes: []byte("ab"), Kids: kids}, 3)
	has(t, tuple(api.Value{Kind: api.VaBytes, Kids: kids}, api.Value{Kids: kids}), 6)
	for _, kind := range []int{api.VaCon, api.VaTuple, 4, 5, 99, math.MaxInt} {
		has(t, api.Value{Kind: kind, Kids: kids}, 15)
		has(t, api.Value{Kind: kind, Kids: []api.Value{{Kind: kind, Kids: kids}, {Kind: api.VaInt, Kids: kids}}}, 19)
		if kind > api.VaCon {
			has(t, api.Value{Kind: kind}, 2)
			has(t, api.Value{Kind: kind, Bytes: make([]byte, 100)}, 2)
		}
	}
}

// P8.2: values of any form, and each field of some by itself
func TestSizeOfAnyForm(t *testing.T) {
	s := sower(2463534242)
	seen := map[int]int{}
	for i := range 4000 {
		v := s.anyValue(edgeNames(), 5)
		if i%2 == 0 {
			v = s.fitValue(4)
		}
		has(t, v, words(v))
		seen[min(words(v), 20)]++
	}
	if len(seen) < 15 {
		t.Errorf("values of too few sizes were tried: %v", seen)
	}
	for range 40 {
		changes(s.anyValue(edgeNames(), 3), func(c api.Value, _ string) { has(t, c, words(c)) })
	}
}

// P8.2, 0.1: what is too great is left as soon as that is known, here of a value that has more parts than can be gone through
func TestSizeIsLeft(t *testing.T) {
	v := nested(200, num(1), func(v api.Value) api.Value { return tuple(v, v) })
	for _, most := range []int{math.MinInt, -1, 0, 1, 3, 4, 5, 500, 1 << 16} {
		if got := value.Size(v, most); got != max(most, 0)+1 {
			t.Errorf("Size of a great value, %d = %d", most, got)
		}
	}
}
