package poly_test

import (
	"math"
	"testing"

	"handloom/api"
	"handloom/poly"
)

// P13.4: the number of a sum; ErrBig, if it is above MaxCoef
func TestAt(t *testing.T) {
	const big = api.MaxCoef
	for _, r := range []struct {
		p    string
		l    []int64
		want int64 // -1: ErrBig
	}{
		{"", nil, 0}, {"", []int64{5}, 0}, {"7", nil, 7}, {"7", []int64{5, 6}, 7}, {"6 + 5 a + a^2", []int64{4}, 42}, {"6 + 5 a + a^2", []int64{0}, 6}, {"6 + 5 a + a^2", []int64{1}, 12},
		{"2 a^3 b", []int64{3, 5}, 270}, {"2 a^3 b", []int64{3}, 0}, {"2 + b", []int64{3}, 2}, {"b", []int64{3, 4}, 4}, {"l + k + a", []int64{1, 2, 4, 8, 16, 32, 64, 128, 256, 512, 1024, 2048}, 3073}, {"l", []int64{1, 2, 4, 8, 16, 32, 64, 128, 256, 512, 1024}, 0},
		{"l + a", []int64{1, 2, 4, 8, 16, 32, 64, 128, 256, 512, 1024, 2048, 4096, big, -1}, 2049},
		{"1 + a", []int64{-1}, 1}, {"1 + a^2", []int64{-3}, 1}, {"1 + a b", []int64{-3, -5}, 1}, {"1 + a^2 b", []int64{math.MinInt64, 7}, 1}, {"a", []int64{math.MinInt64}, 0},
		{"a^6", []int64{2}, 64}, {"a^6 b^6", []int64{2, 3}, 46656}, {"a^6", []int64{101}, 1061520150601}, {"a^6", []int64{102}, -1},
		{"1099511627776", nil, big}, {"1099511627776 a", []int64{1}, big}, {"1099511627776 a", []int64{2}, -1}, {"1099511627776 a", []int64{0}, 0}, {"1 + 1099511627776 a", []int64{1}, -1}, {"1 + 1099511627775 a", []int64{1}, big}, {"1 + 1099511627775 l + a", []int64{1, 0, 0, 0, 0, 0, 0, 0, 0, 0, 0, 1}, -1},
		{"a", []int64{big}, big}, {"a", []int64{big + 1}, -1}, {"a", []int64{big - 1}, big - 1}, {"1 + a", []int64{big}, -1}, {"1 + a", []int64{big - 1}, big}, {"a", []int64{math.MaxInt64}, -1}, {"a^2", []int64{math.MaxInt64}, -1}, {"2 a", []int64{math.MaxInt64}, -1}, {"2 a", []int64{1 << 62}, -1}, {"4 a", []int64{1 << 62}, -1}, {"b", []int64{math.MaxInt64}, 0}, {"5", []int64{math.MaxInt64}, 5},
		{"a^2", []int64{1 << 20}, big}, {"a^2", []int64{1<<20 + 1}, -1}, {"a^2", []int64{1 << 32}, -1}, {"a^2", []int64{1 << 31}, -1}, {"a^6", []int64{1 << 32}, -1}, {"a^6", []int64{big}, -1}, {"a b", []int64{1 << 32, 1 << 32}, -1}, {"a b", []int64{1 << 32, 1<<32 + 1}, -1}, {"a b", []int64{1 << 33, 1 << 7}, big},
		{"1099511627776 a^6 b", []int64{big, 0}, 0}, {"1099511627776 a^6 b", []int64{math.MaxInt64, -1}, 0}, {"1099511627776 a b^6", []int64{0, math.MaxInt64}, 0}, {"3 + 1099511627776 a^6 l", []int64{math.MaxInt64}, 3}, {"549755813888 b + 549755813888 a", []int64{1, 1}, big}, {"549755813889 b + 549755813888 a", []int64{1, 1}, -1},
	} {
		want := number{r.want, api.OK}
		if r.want < 0 {
			want = number{0, api.ErrBig}
		}
		wants(t, r, numbered(poly.At(sum(r.p), r.l)), want)
	}
	wants(t, "64 terms", numbered(poly.At(full(64), []int64{0, 1, 0, 0, 1, 0, 0, 0, 0, 0, 0, 1})), number{64, api.OK})
	ones := make([]int64, api.NumVars)
	for k := range ones {
		ones[k] = 1
	}
	p := full(64)
	for i := range p {
		p[i].Coef = api.MaxCoef / 64
	}
	wants(t, "64 terms that are just not too great", numbered(poly.At(p, ones)), number{api.MaxCoef, api.OK})
	p[63].Coef++
	wants(t, "64 terms that are just too great", numbered(poly.At(p, ones)), number{0, api.ErrBig})
	for i := range p {
		p[i].Coef = api.MaxCoef
	}
	wants(t, "64 terms, as great as may be", numbered(poly.At(p, ones)), number{0, api.ErrBig})
}

// P13.4: many, held against numbers without bounds
func TestAtOfMany(t *testing.T) {
	s := sower(521288629)
	told := map[api.Errno]int{}
	for range 20000 {
		p := s.aSum(s.aSize())
		l := some(pick(&s, s.below(4), 12, s.below(15)), func() int64 { return pick(&s, s.anyNumber(), int64(s.below(5)), int64(s.below(100))) })
		got := numbered(poly.At(p, l))
		wants(t, []any{p, l}, got, wantAt(p, l))
		told[got.err]++
	}
	if len(told) != 2 || told[api.OK] < 2000 || told[api.ErrBig] < 2000 {
		t.Errorf("%v: too few of a sort", told)
	}
}
