package bound

import (
	"handloom/api"
	"handloom/poly"
)

// caught is the error that was thrown, if one was; what is none goes on.
func caught(thrown any) api.Errno {
	if thrown == nil {
		return api.OK
	}
	err, ok := thrown.(api.Errno)
	if !ok {
		panic(thrown)
	}
	return err
}

// fit is a sum, if it is not too great; else that is thrown.
func fit(p api.Poly, err api.Errno) api.Poly {
	if err != api.OK {
		panic(err)
	}
	return p
}

func number(n int) api.Poly { return fit(poly.Num(int64(n))) }

func unknown(k int) api.Poly { return fit(poly.Var(k)) }

func plus(a, b api.Poly) api.Poly { return fit(poly.Add(a, b)) }

func times(a, b api.Poly) api.Poly { return fit(poly.Mul(a, b)) }

func greater(a, b api.Poly) api.Poly { return fit(poly.Max(a, b)) }

// once parts a sum from an unknown, and tells whether it is in it: what it is in otherwise than added once grows too fast.
func once(p api.Poly, k int) (rest api.Poly, is bool) {
	count, rest, ok := poly.Split(p, k)
	if !ok || count > 1 {
		panic(api.ErrGrow)
	}
	return rest, count == 1
}

// without wants sums to have none of an unknown.
func without(k int, l ...api.Poly) {
	for _, p := range l {
		if poly.Has(p, k) {
			panic(api.ErrGrow)
		}
	}
}

// put is a bound, sums standing for its unknowns.
func put(b api.Bound, l []api.Poly) api.Bound {
	b.Size = fit(poly.Put(b.Size, l))
	b.Words = fit(poly.Put(b.Words, l))
	b.Steps = fit(poly.Put(b.Steps, l))
	b.Peak = fit(poly.Put(b.Peak, l))
	return b
}

// only is what stands for unknowns, if all ahead of the unknown k are themselves.
func only(k int, p api.Poly) []api.Poly {
	var l []api.Poly
	for at := range k {
		l = append(l, unknown(at))
	}
	return append(l, p)
}
