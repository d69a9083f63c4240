package poly_test

import (
	"math/big"
	"slices"
	"strings"

	"handloom/api"
)

// A second reading of the chapter: a sum is held as how often each product of powers is in it, by numbers without bounds, and what is too great is asked at the end.

// powers is how often each unknown stands in a product.
type powers [api.NumVars]int

// amounts is how often each product of powers is in a sum; what is there 0 times is not there.
type amounts map[powers]*big.Int

func (m amounts) add(x powers, n *big.Int) {
	if m[x] == nil {
		m[x] = new(big.Int)
	}
	if m[x].Add(m[x], n); m[x].Sign() == 0 {
		delete(m, x)
	}
}

func amountsOf(p api.Poly) amounts {
	m := amounts{}
	for _, t := range p {
		var x powers
		for k, e := range t.Exps {
			x[k] = int(e)
		}
		m.add(x, big.NewInt(t.Coef))
	}
	return m
}

// answer is that sum, or that it is too great.
func (m amounts) answer() answer {
	if len(m) > 64 {
		return tooGreat()
	}
	var l api.Poly
	for x, n := range m {
		if slices.Max(x[:]) > 6 || n.Cmp(big.NewInt(1<<40)) > 0 {
			return tooGreat()
		}
		t := api.Term{Coef: n.Int64()}
		for k, e := range x {
			t.Exps[k] = uint8(e)
		}
		l = append(l, t)
	}
	slices.SortFunc(l, func(a, b api.Term) int { return strings.Compare(string(a.Exps[:]), string(b.Exps[:])) })
	return right(l)
}

func wantFit(p api.Poly) bool {
	for i, t := range p {
		if i > 0 && string(p[i-1].Exps[:]) >= string(t.Exps[:]) || t.Coef < 1 || t.Coef > 1<<40 || strings.ContainsFunc(string(t.Exps[:]), func(r rune) bool { return r > 6 }) {
			return false
		}
	}
	return len(p) <= 64
}

func wantAdd(a, b api.Poly) answer { return amountsOf(append(slices.Clone(a), b...)).answer() }

func wantMul(a, b api.Poly) answer {
	m := amounts{}
	for x, n := range amountsOf(a) {
		for y, o := range amountsOf(b) {
			z := x
			for k := range z {
				z[k] += y[k]
			}
			m.add(z, new(big.Int).Mul(n, o))
		}
	}
	return m.answer()
}

func wantMax(a, b api.Poly) answer {
	m := amountsOf(a)
	for x, n := range amountsOf(b) {
		if m[x] == nil || m[x].Cmp(n) < 0 {
			m[x] = n
		}
	}
	return m.answer()
}

// wantPut writes down all that is multiplied, and does it from the left.
func wantPut(p api.Poly, l []api.Poly) answer {
	var sum api.Poly
	for _, t := range p {
		row := []api.Poly{{{Coef: t.Coef}}}
		for k, e := range t.Exps {
			what := powersOf(k, 1, 1)
			if k < len(l) {
				what = l[k]
			}
			row = append(row, slices.Repeat([]api.Poly{what}, int(e))...)
		}
		one := row[0]
		for _, what := range row[1:] {
			a := wantMul(one, what)
			if a.err != api.OK {
				return tooGreat()
			}
			one = a.p
		}
		a := wantAdd(sum, one)
		if a.err != api.OK {
			return tooGreat()
		}
		sum = a.p
	}
	return right(sum)
}

// exactAt is the number, however great.
func exactAt(p api.Poly, l []int64) *big.Int {
	sum := new(big.Int)
	for _, t := range p {
		n := big.NewInt(t.Coef)
		for k, e := range t.Exps {
			x := new(big.Int)
			if k < len(l) && l[k] > 0 {
				x.SetInt64(l[k])
			}
			n.Mul(n, x.Exp(x, big.NewInt(int64(e)), nil))
		}
		sum.Add(sum, n)
	}
	return sum
}

// number is what At tells.
type number struct {
	n   int64
	err api.Errno
}

func numbered(n int64, err api.Errno) number { return number{n, err} }

func wantAt(p api.Poly, l []int64) number {
	n := exactAt(p, l)
	if n.Cmp(big.NewInt(1<<40)) > 0 {
		return number{0, api.ErrBig}
	}
	return number{n.Int64(), api.OK}
}

// parted is what Split tells.
type parted struct {
	times int64
	rest  api.Poly
	ok    bool
}

func split(times int64, rest api.Poly, ok bool) parted { return parted{times, rest, ok} }

func wantSplit(p api.Poly, k int) parted {
	m := amountsOf(p)
	var alone powers
	if k >= 0 && k < len(alone) {
		alone[k] = 1
	}
	times := new(big.Int)
	for x, n := range m {
		switch {
		case k < 0 || k >= len(x) || x[k] == 0:
		case x == alone:
			times = n
			delete(m, x)
		default:
			return parted{}
		}
	}
	return parted{times.Int64(), m.answer().p, true}
}

func wantHas(p api.Poly, k int) bool {
	for _, t := range p {
		for i, e := range t.Exps {
			if i == k && e > 0 {
				return true
			}
		}
	}
	return false
}
