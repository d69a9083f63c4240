package poly_test

import (
	"math"
	"slices"

	"handloom/api"
)

// sower gives numbers that look like chance, the same ones each time.
type sower uint64

func (s *sower) below(n int) int {
	x := uint64(*s)
	x ^= x << 13
	x ^= x >> 7
	x ^= x << 17
	*s = sower(x)
	return int(x>>11) % n
}

func pick[T any](s *sower, l ...T) T { return l[s.below(len(l))] }

func some[T any](count int, make func() T) []T {
	var l []T
	for range count {
		l = append(l, make())
	}
	return l
}

// aCoef is one that can be, of all sizes.
func (s *sower) aCoef(bits int) int64 {
	n := int64(s.below(1<<30))<<30 | int64(s.below(1<<30))
	return min(pick[int64](s, n>>(60-bits)+1, n>>(60-s.below(bits+1))+1, 1, 2, 1<<bits, 1<<bits+1), api.MaxCoef)
}

// size is how great the sums are that are made: at most so many terms, with so many unknowns, to at most such a power, with numbers up to 2^bits.
type size struct{ terms, unknowns, power, bits int }

func (s *sower) aSize() size {
	return pick(s,
		size{3, 2, 1, 4}, size{4, 3, 2, 8}, size{8, 2, 3, 20}, size{8, 12, 3, 12}, size{3, 12, 6, 40}, size{12, 3, 2, 20},
		size{9, 4, 3, 39}, size{64, 2, 6, 4}, size{64, 12, 6, 40}, size{1, 12, 6, 40}, size{20, 1, 6, 30}, size{5, 1, 1, 20})
}

func (s *sower) aTerm(g size) api.Term {
	t := api.Term{Coef: s.aCoef(g.bits)}
	for range s.below(4) {
		t.Exps[pick(s, s.below(g.unknowns), 11-s.below(g.unknowns))] = uint8(s.below(g.power + 1))
	}
	return t
}

// aSum is one that is fit.
func (s *sower) aSum(g size) api.Poly {
	l := some(pick(s, s.below(g.terms+1), g.terms), func() api.Term { return s.aTerm(g) })
	slices.SortFunc(l, func(a, b api.Term) int { return slices.Compare(a.Exps[:], b.Exps[:]) })
	return slices.CompactFunc(l, func(a, b api.Term) bool { return a.Exps == b.Exps })
}

// anySum is of any form, next to none is fit.
func (s *sower) anySum() api.Poly {
	if s.below(4) == 0 {
		return s.aSum(s.aSize())
	}
	return some(pick(s, s.below(6), s.below(6), s.below(80)), func() api.Term {
		t := s.aTerm(s.aSize())
		if s.below(3) == 0 {
			t.Coef = pick[int64](s, 0, -1, math.MinInt64, math.MaxInt64, api.MaxCoef+1, 1<<62, 1<<63-1<<40, -api.MaxCoef)
		}
		if s.below(3) == 0 {
			t.Exps[s.below(api.NumVars)] = pick[uint8](s, 7, 12, 128, 250, 255)
		}
		return t
	})
}

// anyNumber is one at edges, or near by.
func (s *sower) anyNumber() int64 {
	return pick(s, 0, 1, 2, -1, math.MinInt64, math.MaxInt64, api.MaxCoef, api.MaxCoef+1, api.MaxCoef-1, 1<<20, 1<<13, int64(s.below(1000)), int64(s.below(1<<40)))
}

// changes tells each sum that differs from one in one number alone, or in one term that is not there, is there twice, or stands elsewhere.
func changes(p api.Poly, tell func(p api.Poly)) {
	for i := range p {
		for _, n := range []int64{0, 1, -1, math.MinInt64, math.MaxInt64, api.MaxCoef, api.MaxCoef + 1, 1 << 41, -api.MaxCoef} {
			q := slices.Clone(p)
			q[i].Coef = n
			tell(q)
		}
		for k := range api.NumVars {
			for _, e := range []uint8{0, 1, 2, 5, 6, 7, 12, 255} {
				q := slices.Clone(p)
				q[i].Exps[k] = e
				tell(q)
			}
		}
		tell(slices.Delete(slices.Clone(p), i, i+1))
		tell(slices.Insert(slices.Clone(p), i, p[i]))
		for j := range p {
			q := slices.Clone(p)
			q[i], q[j] = q[j], q[i]
			tell(q)
		}
	}
}
