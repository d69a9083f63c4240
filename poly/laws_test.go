package poly_test

import (
	"math/big"
	"reflect"
	"testing"

	"handloom/api"
	"handloom/poly"
)

// fine is what was told, if nothing is too great so far.
func fine(a answer, bad *bool) api.Poly {
	*bad = *bad || a.err != api.OK
	return a.p
}

func added(a, b api.Poly, bad *bool) api.Poly { return fine(answered(poly.Add(a, b)), bad) }

func multiplied(a, b api.Poly, bad *bool) api.Poly { return fine(answered(poly.Mul(a, b)), bad) }

// P13.6: sums and products do not hang on order
func TestOrderDoesNotCount(t *testing.T) {
	s := sower(746382911)
	told := map[api.Errno]int{}
	for range 10000 {
		g := s.aSize()
		a, b := s.aSum(g), s.aSum(g)
		for _, do := range []func(a, b api.Poly) (api.Poly, api.Errno){poly.Add, poly.Mul, poly.Max} {
			got := answered(do(a, b))
			wants(t, []any{a, b}, got, answered(do(b, a)))
			told[got.err]++
		}
	}
	if len(told) != 2 || told[api.ErrBig] < 1000 {
		t.Errorf("%v: too few of a sort", told)
	}
}

// P13.6: sums and products do not hang on brackets, products of sums are sums of products; 0 and 1 do nothing
func TestSemiring(t *testing.T) {
	s := sower(99194853)
	one, _ := poly.Num(1)
	told := map[bool]int{}
	for range 20000 {
		g := pick(&s, size{3, 2, 1, 4}, size{4, 3, 2, 8}, size{4, 2, 2, 10}, size{3, 12, 2, 12}, size{12, 3, 1, 6}, size{1, 12, 2, 14})
		a, b, c := s.aSum(g), s.aSum(g), s.aSum(g)
		var sums, products, mixed bool
		x, y := added(added(a, b, &sums), c, &sums), added(a, added(b, c, &sums), &sums)
		v, w := multiplied(multiplied(a, b, &products), c, &products), multiplied(a, multiplied(b, c, &products), &products)
		p, q := multiplied(a, added(b, c, &mixed), &mixed), added(multiplied(a, b, &mixed), multiplied(a, c, &mixed), &mixed)
		if !sums && !reflect.DeepEqual(x, y) || !products && !reflect.DeepEqual(v, w) || !mixed && !reflect.DeepEqual(p, q) {
			t.Errorf("%s, %s, %s: brackets count", short(a), short(b), short(c))
		}
		told[sums]++
		told[products]++
		told[mixed]++
		wants(t, a, []answer{answered(poly.Add(a, nil)), answered(poly.Mul(a, one)), answered(poly.Mul(one, a)), answered(poly.Mul(a, nil))}, []answer{right(a), right(a), right(a), right(nil)})
	}
	if told[false] < 20000 || told[true] < 1000 {
		t.Errorf("%v: too few of a sort", told)
	}
}

// atAll is At of some sums, and whether none of them is too great.
func atAll(m []int64, l ...api.Poly) (numbers []int64, ok bool) {
	for _, p := range l {
		n, err := poly.At(p, m)
		if err != api.OK {
			return nil, false
		}
		numbers = append(numbers, n)
	}
	return numbers, true
}

// limited is a number as At would tell it.
func limited(n *big.Int) number {
	if n.Cmp(big.NewInt(api.MaxCoef)) > 0 {
		return number{0, api.ErrBig}
	}
	return number{n.Int64(), api.OK}
}

// P13.7: At of a sum, a product, a Put is that of the numbers, At of Max is not below either
func TestNumbersOfWhole(t *testing.T) {
	s := sower(40692)
	counts := [4]int{}
	for range 20000 {
		g := pick(&s, size{3, 2, 2, 4}, size{4, 3, 2, 8}, size{3, 12, 2, 12}, size{8, 3, 3, 20}, size{5, 12, 6, 39})
		a, b := s.aSum(g), s.aSum(g)
		m := some(pick(&s, 12, 12, s.below(14)), func() int64 { return pick(&s, s.anyNumber(), int64(s.below(4)), int64(s.below(20)-2)) })
		n, ok := atAll(m, a, b)
		if !ok {
			continue
		}
		x, y := big.NewInt(n[0]), big.NewInt(n[1])
		if sum, err := poly.Add(a, b); err == api.OK {
			counts[0]++
			wants(t, []any{a, b, m}, numbered(poly.At(sum, m)), limited(new(big.Int).Add(x, y)))
		}
		if product, err := poly.Mul(a, b); err == api.OK {
			counts[1]++
			wants(t, []any{a, b, m}, numbered(poly.At(product, m)), limited(new(big.Int).Mul(x, y)))
		}
		if greater, err := poly.Max(a, b); err == api.OK {
			counts[2]++
			if got := numbered(poly.At(greater, m)); got.err == api.OK && got.n < max(n[0], n[1]) {
				t.Errorf("%s, %s: %d was told of Max at %v, below %v", short(a), short(b), got.n, m, n)
			}
		}
		l := some(s.below(api.NumVars+3), func() api.Poly { return s.aSum(size{2, 3, 2, 6}) })
		if put, err := poly.Put(a, l); err == api.OK {
			if numbers, ok := atAll(m, l...); ok {
				counts[3]++
				numbers = append(numbers[:min(len(l), api.NumVars)], m[min(len(l), len(m)):]...)
				wants(t, []any{a, l, m}, numbered(poly.At(put, m)), numbered(poly.At(a, numbers)))
			}
		}
	}
	if counts[0] < 1000 || counts[1] < 1000 || counts[2] < 1000 || counts[3] < 1000 {
		t.Errorf("%v: too few", counts)
	}
}

// P13.8: what Split tells, put together, is the sum
func TestSplitPutTogether(t *testing.T) {
	s := sower(69069)
	told := 0
	for range 10000 {
		p := s.aSum(pick(&s, s.aSize(), size{4, 3, 2, 8}, size{5, 12, 1, 8}))
		for k := range api.NumVars {
			times, rest, ok := poly.Split(p, k)
			if !ok {
				continue
			}
			x, _ := poly.Var(k)
			n, _ := poly.Num(times)
			var bad bool
			wants(t, []any{p, k}, added(multiplied(n, x, &bad), rest, &bad), p)
			if bad || poly.Has(rest, k) {
				t.Errorf("%s, %d: %d and %s were told", short(p), k, times, short(rest))
			}
			told += min(int(times), 1)
		}
	}
	if told < 1000 {
		t.Errorf("%d were told with the unknown: too few", told)
	}
}
