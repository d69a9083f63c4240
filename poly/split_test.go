package poly_test

import (
	"math"
	"testing"

	"handloom/api"
	"handloom/poly"
)

// P13.5: is there a term with the unknown?
func TestHas(t *testing.T) {
	for src, in := range map[string]string{
		"": "", "1": "", "7": "", "a": "a", "l": "l", "5 + 3 l": "l", "a^6": "a", "1 + 2 l + 3 k + 5 a b^2": "abkl", "a b c d e f g h i j k l": "abcdefghijkl", "c^6 d": "cd", "l + k + j + i + h": "hijkl",
	} {
		for k := range api.NumVars {
			want := false
			for _, r := range in {
				want = want || int(r-'a') == k
			}
			wants(t, []any{src, k}, poly.Has(sum(src), k), want)
		}
		for _, k := range nowhere() {
			wants(t, []any{src, k}, poly.Has(sum(src), k), false)
		}
	}
}

// nowhere is of unknowns that there are not.
func nowhere() []int {
	return []int{-1, -12, 12, 13, 24, 255, 256, 257, 1 << 32, 1<<32 + 1, -1 << 32, math.MinInt, math.MaxInt}
}

// P13.5: how often the unknown stands alone, and the sum without that; false, if it stands elsewhere
func TestSplit(t *testing.T) {
	for _, r := range []struct {
		p    string
		k    int
		want parted
	}{
		{"b + 3 a", 0, parted{3, sum("b"), true}}, // the chapter's example
		{"", 0, parted{0, nil, true}}, {"5", 0, parted{0, sum("5"), true}}, {"5", 11, parted{0, sum("5"), true}}, {"a", 0, parted{1, nil, true}}, {"a", 1, parted{0, sum("a"), true}}, {"l", 11, parted{1, nil, true}}, {"1099511627776 l", 11, parted{1099511627776, nil, true}},
		{"2 + 3 l + 5 a", 0, parted{5, sum("2 + 3 l"), true}}, {"2 + 3 l + 5 a", 11, parted{3, sum("2 + 5 a"), true}}, {"2 + 3 l + 5 a", 5, parted{0, sum("2 + 3 l + 5 a"), true}}, {"2 + 3 l + 4 k + 5 a", 10, parted{4, sum("2 + 3 l + 5 a"), true}},
		{"a^2", 0, parted{}}, {"l^6", 11, parted{}}, {"a b", 0, parted{}}, {"a b", 1, parted{}}, {"a b", 2, parted{0, sum("a b"), true}}, {"a + a^2", 0, parted{}}, {"a + a b", 0, parted{}}, {"3 + 2 a + 5 a b", 0, parted{}}, {"b + a + a b", 1, parted{}}, {"a + a l", 11, parted{}}, {"2 + a b c d e f g h i j k l", 7, parted{}},
		{"l + a^2", 11, parted{1, sum("a^2"), true}}, {"1 + l + l^2", 11, parted{}}, {"b + a^2 c", 1, parted{1, sum("a^2 c"), true}}, {"2 c^2 + 3 b + 5 a c", 1, parted{3, sum("2 c^2 + 5 a c"), true}}, {"2 c^2 + 3 b + 5 a c", 2, parted{}},
	} {
		wants(t, r, split(poly.Split(sum(r.p), r.k)), r.want)
	}
	for k := range api.NumVars {
		for e := 2; e <= 6; e++ {
			wants(t, []any{k, e}, split(poly.Split(powersOf(k, e, e), k)), parted{})
			wants(t, []any{k, e}, split(poly.Split(powersOf(k, 0, e), k)), parted{})
		}
		wants(t, k, split(poly.Split(powersOf(k, 0, 1), k)), parted{1, sum("1"), true})
	}
	wants(t, "64 terms", split(poly.Split(append(full(63), sum("a")...), 0)), parted{1, full(63), true})
}

// P13.5: of an unknown that there is not no term has one: all of the sum is left
func TestSplitOfNone(t *testing.T) {
	for _, src := range []string{"", "1", "5", "a", "l", "2 + 3 l + 5 a", "a^6", "7 + a b c d e f g h i j k l"} {
		for _, k := range nowhere() {
			wants(t, []any{src, k}, split(poly.Split(sum(src), k)), parted{0, sum(src), true})
		}
	}
	wants(t, "an empty list", split(poly.Split(api.Poly{}, 12)), parted{0, nil, true})
	wants(t, "an empty list", split(poly.Split(api.Poly{}, 3)), parted{0, nil, true})
}

// P13.5: many, held against the second reading
func TestSplitOfMany(t *testing.T) {
	s := sower(1597334677)
	told := map[bool]int{}
	for range 5000 {
		p := s.aSum(pick(&s, s.aSize(), size{4, 3, 2, 8}, size{5, 12, 1, 8}))
		for k := -1; k <= api.NumVars; k++ {
			want := wantSplit(p, k)
			wants(t, []any{p, k}, split(poly.Split(p, k)), want)
			wants(t, []any{p, k}, poly.Has(p, k), wantHas(p, k))
			if want.times > 0 || !want.ok {
				told[want.ok]++
			}
		}
	}
	if told[true] < 1000 || told[false] < 1000 {
		t.Errorf("%v: too few of a sort", told)
	}
}
