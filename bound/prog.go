package bound

import (
	"slices"

	"handloom/api"
	"handloom/ty"
)

// reckoner goes through the expressions of a program in which nothing is wrong.
type reckoner struct {
	types []api.Data
	funs  map[string]fun // those ahead
	names names
	loops int // how many loops have an expression in what they do again and again

	at    api.Pos      // the place of the part that it has come to
	self  string       // the function in whose Body it is
	calls [][]api.Poly // the sizes with which that calls itself
}

func newReckoner(p api.Prog) *reckoner {
	return &reckoner{types: ty.Datas(p), funs: map[string]fun{}}
}

func (r *reckoner) prog(p api.Prog) api.Bounds {
	var told api.Bounds
	for at := range p.Funs {
		told.Funs = append(told.Funs, r.fun(&p.Funs[at]))
	}
	r.at = p.Init.At
	told.Init = r.expr(&p.Init).Bound
	for at := range p.Hands {
		told.Hands = append(told.Hands, r.hand(p.State, &p.Hands[at]))
	}
	return told
}

func (r *reckoner) hand(state api.Type, h *api.Hand) api.Bound {
	r.at = h.At
	own := names{param(api.VarState, api.Param{Name: "state", Type: state}), param(api.VarLoad, h.Param)}
	return r.within(own, &h.Body).Bound
}

// each is a new list, of what is made of each part; of an empty one none.
func each[T, U any](list []T, change func(part T) U) []U {
	made := slices.Grow([]U(nil), len(list))
	for _, part := range list {
		made = append(made, change(part))
	}
	return made
}
