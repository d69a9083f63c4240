package bound_test

import (
	"math/big"
	"slices"
	"strings"

	"handloom/api"
)

// powers is how often each unknown stands in a product.
type powers [api.NumVars]int

// amounts is how often each product of powers is in a sum, by numbers without bounds: so what is too great can be gone on with.
type amounts map[powers]*big.Int

func amount(n int) amounts {
	m := amounts{}
	m.add(powers{}, big.NewInt(int64(n)))
	return m
}

func single(k int) amounts {
	var x powers
	x[k] = 1
	return amounts{x: big.NewInt(1)}
}

func (m amounts) add(x powers, n *big.Int) {
	if m[x] == nil {
		m[x] = new(big.Int)
	}
	if m[x].Add(m[x], n); m[x].Sign() == 0 {
		delete(m, x)
	}
}

// fit tells whether it can be.
func (m amounts) fit() bool {
	for x, n := range m {
		if slices.Max(x[:]) > 6 || n.Cmp(big.NewInt(1<<40)) > 0 {
			return false
		}
	}
	return len(m) <= 64
}

// sum is it as one that is told.
func (m amounts) sum() api.Poly {
	var l api.Poly
	for x, n := range m {
		t := api.Term{Coef: n.Int64()}
		for k, e := range x {
			t.Exps[k] = uint8(e)
		}
		l = append(l, t)
	}
	slices.SortFunc(l, func(a, b api.Term) int { return strings.Compare(string(a.Exps[:]), string(b.Exps[:])) })
	return l
}

// has tells whether an unknown is in it.
func (m amounts) has(k int) bool {
	for x := range m {
		if x[k] > 0 {
			return true
		}
	}
	return false
}

// errors is what was met that is wrong.
type errors struct{ grow, big bool }

// held notes it, if a sum is too great; one of very many terms is not gone on with.
func (r *errors) held(m amounts) amounts {
	r.big = r.big || !m.fit()
	if len(m) > 300 {
		return amounts{}
	}
	return m
}

func (r *errors) plus(l ...amounts) amounts {
	all := amounts{}
	for _, m := range l {
		for x, n := range m {
			all.add(x, n)
		}
	}
	return r.held(all)
}

func (r *errors) times(a, b amounts) amounts {
	all := amounts{}
	for x, n := range a {
		for y, o := range b {
			z := x
			for k := range z {
				z[k] += y[k]
			}
			all.add(z, new(big.Int).Mul(n, o))
		}
	}
	return r.held(all)
}

func (r *errors) greatest(l ...amounts) amounts {
	all := amounts{}
	for _, m := range l {
		for x, n := range m {
			if all[x] == nil || all[x].Cmp(n) < 0 {
				all[x] = n
			}
		}
	}
	return r.held(all)
}

// put is a sum, others standing for some unknowns: each product is made step by step, from the first unknown on.
func (r *errors) put(m amounts, stands map[int]amounts) amounts {
	var all []amounts
	for x, n := range m {
		one := r.held(amounts{powers{}: n})
		for k, e := range x {
			for range e {
				what, is := stands[k]
				if !is {
					what = single(k)
				}
				one = r.times(one, what)
			}
		}
		all = append(all, one)
	}
	return r.plus(all...)
}

// once is what a sum is without an unknown, and whether that is added in it; anything else is noted.
func (r *errors) once(m amounts, k int) (amounts, bool) {
	alone := powers{}
	alone[k] = 1
	rest, is := amounts{}, false
	for x, n := range m {
		switch {
		case x[k] == 0:
			rest[x] = n
		case x == alone && n.Cmp(big.NewInt(1)) == 0:
			is = true
		default:
			r.grow = true
		}
	}
	return rest, is
}
