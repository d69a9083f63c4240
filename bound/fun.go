package bound

import (
	"handloom/api"
	"handloom/halt"
)

// fun is a function, and its bound, as soon as that is known.
type fun struct {
	api.Fun
	api.Bound
}

// fun reckons a function's bound; those that it calls stand ahead.
func (r *reckoner) fun(f *api.Fun) api.Bound {
	r.at, r.self, r.calls = f.At, f.Name, nil
	r.funs[f.Name] = fun{Fun: *f}
	b := r.within(params(f.Params...), &f.Body).Bound
	if k, _ := halt.Down(*f); k >= 0 {
		b = descent(b, k, growth(r.calls, len(f.Params), k))
	}
	r.self = ""
	r.funs[f.Name] = fun{*f, b}
	return b
}

// growth is by how much each parameter but the one that goes down grows from one call to the next; those of flat types have no words.
func growth(calls [][]api.Poly, count, down int) []api.Poly {
	grown := make([]api.Poly, count)
	for _, sizes := range calls {
		for j, size := range sizes {
			if j == down {
				continue
			}
			without(api.VarSelf, size)
			rest, _ := once(size, j)
			grown[j] = greater(grown[j], rest)
		}
	}
	steady(grown)
	return grown
}

// steady wants what is added to hang on nothing that grows itself.
func steady(grown []api.Poly) {
	for i, by := range grown {
		// what has no terms stays as it is
		if len(by) > 0 {
			without(i, grown...)
		}
	}
}

// descent is the bound of a function, from its Body's, that goes down by a parameter: it calls itself at most as often as that has words, and once.
func descent(body api.Bound, down int, grown []api.Poly) api.Bound {
	often := plus(unknown(down), number(1))
	var most []api.Poly
	for j, by := range grown {
		most = append(most, plus(unknown(j), times(often, by)))
	}
	rest, again := once(body.Size, api.VarSelf)
	without(api.VarSelf, body.Words, body.Steps, body.Peak)
	body.Size = rest
	b := put(body, most)
	if again {
		b.Size = times(often, b.Size)
	}
	b.Words, b.Steps, b.Peak = times(often, b.Words), times(often, b.Steps), times(often, b.Peak)
	return b
}
