package poly_test

import (
	"strconv"
	"testing"

	"handloom/api"
	"handloom/poly"
)

// row is two sums, and what is told of them: "big" is ErrBig.
type row struct{ a, b, want string }

func (r row) answer() answer {
	if r.want == "big" {
		return tooGreat()
	}
	return right(sum(r.want))
}

// both ways: order does not count
func holds(t *testing.T, name string, do func(a, b api.Poly) (api.Poly, api.Errno), rows []row) {
	t.Helper()
	for _, r := range rows {
		wants(t, name+" "+r.a+" , "+r.b, answered(do(sum(r.a), sum(r.b))), r.answer())
		wants(t, name+" "+r.b+" , "+r.a, answered(do(sum(r.b), sum(r.a))), r.answer())
	}
}

// P13.2: the sum; ErrBig, if a Coef is too great
func TestAdd(t *testing.T) {
	holds(t, "Add", poly.Add, []row{
		{"", "", ""}, {"", "3", "3"}, {"", "2 + 3 l + a^6", "2 + 3 l + a^6"}, {"1", "1", "2"}, {"2", "3 a", "2 + 3 a"}, {"a", "a", "2 a"}, {"a", "l", "l + a"}, {"a", "a^2", "a + a^2"},
		{"1 + 2 l + 3 a", "5 + 7 k + 11 a", "6 + 2 l + 7 k + 14 a"}, {"1 + k + a", "l + b + a^2", "1 + l + k + b + a + a^2"}, {"l + k + j", "i + h + g", "l + k + j + i + h + g"},
		{"a b^2 c^3", "a b^2 c^3 + a b^3 c^2", "2 a b^2 c^3 + a b^3 c^2"}, {"l", "1 + a", "1 + l + a"},
		{"1099511627775", "1", "1099511627776"}, {"1099511627776", "1", "big"}, {"1099511627776 a", "a", "big"}, {"1099511627776 a", "1099511627776 l", "1099511627776 l + 1099511627776 a"}, {"1099511627776", "1099511627776", "big"},
		{"549755813888 b", "549755813888 b", "1099511627776 b"}, {"549755813888 b", "549755813889 b", "big"}, {"1 + 1099511627776 l + a", "1 + l + a", "big"}, {"1099511627775 l + a", "l + b", "1099511627776 l + b + a"},
		{"a^6 l^6", "a^6 l^6", "2 a^6 l^6"},
	})
}

// P13.2: just MaxTerms terms of a sum, and one more
func TestAddOfManyTerms(t *testing.T) {
	wants(t, "64 and none", answered(poly.Add(full(64), nil)), right(full(64)))
	wants(t, "63 and another", answered(poly.Add(full(63), full(64)[63:])), right(full(64)))
	wants(t, "64 and one of them", answered(poly.Add(full(64), full(1))), wantAdd(full(64), full(1)))
	wants(t, "64 and another", answered(poly.Add(full(64), full(65)[64:])), tooGreat())
	wants(t, "another and 64", answered(poly.Add(full(65)[:1], full(65)[1:])), tooGreat())
	wants(t, "64 twice", answered(poly.Add(full(64), full(64))), wantAdd(full(64), full(64)))
	wants(t, "halves", answered(poly.Add(full(32), full(64)[32:])), right(full(64)))
	wants(t, "halves, the other way", answered(poly.Add(full(64)[32:], full(32))), right(full(64)))
	wants(t, "halves, one more", answered(poly.Add(full(33), full(65)[33:])), tooGreat())
	wants(t, "64 and 64 others", answered(poly.Add(full(64), full(128)[64:])), tooGreat())
	wants(t, "64 and 64, of which one is another", answered(poly.Add(full(64), full(65)[1:])), tooGreat())
}

// P13.2: the product; ErrBig, if a Coef or an Exp is too great
func TestMul(t *testing.T) {
	holds(t, "Mul", poly.Mul, []row{
		{"2 + a", "3 + a", "6 + 5 a + a^2"}, // the chapter's example
		{"", "", ""}, {"", "5", ""}, {"", "2 + 3 l + a^6", ""}, {"1", "1", "1"}, {"1", "2 + 3 l + a^6", "2 + 3 l + a^6"}, {"2", "2 + 3 l + a^6", "4 + 6 l + 2 a^6"}, {"a", "a", "a^2"}, {"a", "l", "a l"}, {"2 a", "3 b", "6 a b"},
		{"b + a", "b + a", "b^2 + 2 a b + a^2"}, {"l + a", "l + a", "l^2 + 2 a l + a^2"}, {"1 + l", "1 + a", "1 + l + a + a l"}, {"1 + l + k", "2 + 3 l + 5 k", "2 + 5 l + 3 l^2 + 7 k + 8 k l + 5 k^2"},
		{"a^3", "a^3", "a^6"}, {"a^3", "a^4", "big"}, {"a^6", "a", "big"}, {"l^6", "l", "big"}, {"a^6", "b^6", "a^6 b^6"}, {"a^6 b^6 c^6", "c", "big"}, {"a^6", "a^6", "big"}, {"1 + a^6", "1 + a", "big"}, {"f^5", "1 + f", "f^5 + f^6"}, {"f^5", "1 + f^2", "big"},
		{"1048576", "1048576", "1099511627776"}, {"1048576", "1048577", "big"}, {"1099511627776", "1", "1099511627776"}, {"1099511627776", "2", "big"}, {"1099511627776 a", "l", "1099511627776 a l"}, {"549755813888", "2", "1099511627776"}, {"549755813889", "2", "big"}, {"1099511627775", "1099511627775", "big"},
		{"1099511627776", "1099511627776", "big"}, {"4294967296", "4294967296", "big"}, {"4294967296", "4294967297", "big"}, {"274877906944", "67108864", "big"}, {"1 + 4294967296 l", "1 + 4294967297 a", "big"}, // these would go round in 64 bits
		{"1 + a", "549755813889 + 549755813888 a", "big"}, {"1 + a", "549755813888 + 549755813888 a", "549755813888 + 1099511627776 a + 549755813888 a^2"}, {"1 + 2 a + a^2", "1 + 549755813888 a", "big"},
		{"1 + a", "1 + a + 1099511627776 a^2", "big"},
	})
}

// P13.2: just MaxTerms terms of a product, and one more; more on the way may be alike
func TestMulOfManyTerms(t *testing.T) {
	eight := func(k int) api.Poly { return append(powersOf(k, 0, 6), powersOf(k-1, 1, 1)...) }
	wants(t, "8 and 8", answered(poly.Mul(eight(1), eight(4))), wantMul(eight(1), eight(4)))
	if got, _ := poly.Mul(eight(1), eight(4)); len(got) != 64 {
		t.Errorf("%d terms were told of 8 and 8", len(got))
	}
	five := sum("1 + l + l^2 + k + k l")
	thirteen := sum("1 + h + h^2 + g + g h + g h^2 + g^2 + f + f h + f h^2 + f g + f g h + f^2")
	wants(t, "5 and 13", answered(poly.Mul(five, thirteen)), tooGreat())
	wants(t, "13 and 5", answered(poly.Mul(thirteen, five)), tooGreat())
	wants(t, "5 and 12", answered(poly.Mul(five, thirteen[:12])), wantMul(five, thirteen[:12]))
	wants(t, "1 and 64", answered(poly.Mul(sum("a"), full(64))), wantMul(sum("a"), full(64)))
	wants(t, "2 and 64", answered(poly.Mul(sum("1 + a"), full(64))), tooGreat())
	wants(t, "64 and 64", answered(poly.Mul(full(64), full(64))), tooGreat())
	wants(t, "64 and none", answered(poly.Mul(full(64), nil)), right(nil))
	square := sum("1 + l + l^2 + l^3 + k + k l + k l^2 + k l^3 + k^2 + k^2 l + k^2 l^2 + k^2 l^3 + k^3 + k^3 l + k^3 l^2 + k^3 l^3")
	wants(t, "16 and 16", answered(poly.Mul(square, square)), wantMul(square, square))
	if got, _ := poly.Mul(square, square); len(got) != 49 {
		t.Errorf("%d terms were told of 16 and 16", len(got))
	}
}

// P13.2: the greater Coef of each term that is in one of two; ErrBig, if these are too many
func TestMax(t *testing.T) {
	holds(t, "Max", poly.Max, []row{
		{"a", "1 + 2 a", "1 + 2 a"}, // the chapter's example
		{"", "", ""}, {"", "3", "3"}, {"1", "1", "1"}, {"1", "2", "2"}, {"a", "l", "l + a"}, {"a", "a", "a"}, {"2 a", "3 a", "3 a"}, {"a", "a^2", "a + a^2"}, {"1 + 5 l + 3 a", "4 + 2 l + 7 a^2", "4 + 5 l + 3 a + 7 a^2"},
		{"1099511627776", "1", "1099511627776"}, {"1099511627776 a", "1099511627776 a", "1099511627776 a"}, {"1099511627776 a", "1099511627775 a + a^6", "1099511627776 a + a^6"},
		{"1 + k + a", "l + b + a^2", "1 + l + k + b + a + a^2"}, {"a^6 l^6", "2 a^6 l^6", "2 a^6 l^6"},
	})
	wants(t, "64 twice", answered(poly.Max(full(64), full(64))), right(full(64)))
	wants(t, "64 and none", answered(poly.Max(nil, full(64))), right(full(64)))
	wants(t, "63 and another", answered(poly.Max(full(64)[1:], full(1))), right(full(64)))
	wants(t, "64 and another", answered(poly.Max(full(64), full(65)[64:])), tooGreat())
	wants(t, "64 and another ahead", answered(poly.Max(full(65)[1:], full(1))), tooGreat())
	wants(t, "64 and 64, of which one is another", answered(poly.Max(full(64), full(65)[1:])), tooGreat())
}

// P13.2: sums, products and the greater ones of many, held against the second reading
func TestOfMany(t *testing.T) {
	s := sower(2463534242)
	told := map[string]int{}
	for range 10000 {
		g := s.aSize()
		a, b := s.aSum(g), s.aSum(pick(&s, g, g, s.aSize()))
		for name, is := range map[string][2]answer{
			"Add": {answered(poly.Add(a, b)), wantAdd(a, b)},
			"Mul": {answered(poly.Mul(a, b)), wantMul(a, b)},
			"Max": {answered(poly.Max(a, b)), wantMax(a, b)},
		} {
			wants(t, []any{name, a, b}, is[0], is[1])
			told[name+strconv.Itoa(int(is[1].err))]++
			if is[0].err == api.OK && !poly.Fit(is[0].p) {
				t.Errorf("%s of %s and %s: %s is not fit", name, short(a), short(b), short(is[0].p))
			}
		}
		if t.Failed() {
			return
		}
	}
	if len(told) != 6 {
		t.Errorf("%v: something was not told", told)
	}
	for _, n := range told {
		if n < 300 {
			t.Errorf("%v: too few of a sort", told)
		}
	}
}
