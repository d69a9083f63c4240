package poly

import (
	"cmp"
	"slices"

	"handloom/api"
)

// powers is what tells terms apart.
type powers = [api.NumVars]uint8

func isUnknown(k int) bool { return k >= 0 && k < api.NumVars }

func canBe(t api.Term) bool {
	return t.Coef >= 1 && t.Coef <= api.MaxCoef && slices.Max(t.Exps[:]) <= api.MaxExp
}

// order is below 0, if a stands ahead of b: the first unlike power counts.
func order(a, b api.Term) int {
	if a.Exps == b.Exps {
		return 0
	}
	k := 0
	for a.Exps[k] == b.Exps[k] {
		k++
	}
	return cmp.Compare(a.Exps[k], b.Exps[k])
}

// plus is the sum of two terms whose powers are alike.
func plus(a, b api.Term) api.Term { return api.Term{Exps: a.Exps, Coef: a.Coef + b.Coef} }

// greater is that of two terms whose powers are alike.
func greater(a, b api.Term) api.Term { return api.Term{Exps: a.Exps, Coef: max(a.Coef, b.Coef)} }

// row is t times each term of p. They rise as p's do: all powers grow by the same.
func row(t api.Term, p api.Poly) api.Poly {
	l := make(api.Poly, len(p))
	for i, x := range p {
		l[i] = api.Term{Exps: together(t.Exps, x.Exps), Coef: product(t.Coef, x.Coef)}
	}
	return l
}

func together(a, b powers) powers {
	for k, e := range b {
		a[k] += e
	}
	return a
}

// product is of numbers that are not below 0. It never goes round: what is too great stays one above MaxCoef, but by 0.
func product(a, b int64) int64 {
	if b > 0 && a > api.MaxCoef/b {
		return api.MaxCoef + 1
	}
	return a * b
}

// termAt is a term's number, at most one above MaxCoef: 0, if an unknown that it has is 0.
func termAt(t api.Term, l []int64) int64 {
	n := t.Coef
	for k, e := range t.Exps {
		for range e {
			n = product(n, numberOf(k, l))
		}
	}
	return n
}

// numberOf is the number of an unknown.
func numberOf(k int, l []int64) int64 {
	if k >= len(l) {
		return 0
	}
	return max(l[k], 0)
}

// fitting is p, if it is not too great.
func fitting(p api.Poly) (api.Poly, api.Errno) {
	if !Fit(p) {
		return nil, api.ErrBig
	}
	return p, api.OK
}
