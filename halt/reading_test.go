package halt_test

import (
	"slices"

	"handloom/api"
	"handloom/cover"
)

// The chapter's words once more: another reading than the program's, to hold it against. It writes down all ways, and asks of a call's name backwards, from where the call stands, who gives it.

// within is an expression with all that are in it.
func within(e api.Expr) []api.Expr {
	l := []api.Expr{e}
	for _, kid := range e.Kids {
		l = append(l, within(kid)...)
	}
	for _, arm := range e.Arms {
		l = append(l, within(arm.Body)...)
	}
	return l
}

func isCall(e api.Expr, name string) bool { return e.Kind == api.ExCall && e.Name == name }

// ways is how many calls are on the ways through an expression: each number that there is.
func ways(e api.Expr, name string) []int {
	made := []int{0}
	if isCall(e, name) {
		made = []int{1}
	}
	in := func(l []api.Expr) [][]int {
		var made [][]int
		for _, e := range l {
			made = append(made, ways(e, name))
		}
		return made
	}
	kids := in(e.Kids)
	switch {
	case e.Kind == api.ExMatch && len(e.Arms) > 0:
		var bodies []api.Expr
		for _, arm := range e.Arms {
			bodies = append(bodies, arm.Body)
		}
		kids = append(kids, slices.Concat(in(bodies)...))
	case e.Kind == api.ExIf && len(kids) > 1:
		kids = [][]int{kids[0], slices.Concat(kids[1:]...)}
	}
	for _, l := range kids {
		made = sums(made, l)
	}
	return made
}

// sums is each number that one of a list and one of another come to.
func sums(a, b []int) []int {
	var made []int
	for _, n := range a {
		for _, m := range b {
			made = append(made, n+m)
		}
	}
	slices.Sort(made)
	return slices.Compact(made)
}

func wantCalls(e api.Expr, name string) (all, way int) {
	for _, part := range within(e) {
		if isCall(part, name) {
			all++
		}
	}
	return all, slices.Max(ways(e, name))
}

// step is a way into an expression: through one of its Kids, or (kid being -1) through one of its arms.
type step struct {
	e        api.Expr
	kid, arm int
}

// gives tells whether a name is given anew by a step, and by a part of what.
func (s step) gives(name string) (is bool, part bool) {
	if s.kid >= 0 {
		return s.kid == 1 && (s.e.Kind == api.ExLet || s.e.Kind == api.ExFor) && s.e.Name == name, false
	}
	return namesIn(s.e.Arms[s.arm].Pat, name, false)
}

// namesIn tells whether a pattern gives a name, and whether within a PtCon or a PtTuple.
func namesIn(p api.Pat, name string, inner bool) (is, part bool) {
	if p.Kind == api.PtVar && p.Name == name {
		is, part = true, inner
	}
	for _, kid := range p.Kids {
		a, b := namesIn(kid, name, inner || p.Kind == api.PtCon || p.Kind == api.PtTuple)
		is, part = is || a, part || b
	}
	return is, part
}

// found is a call, and the way to it.
type found struct {
	call  api.Expr
	trail []step
}

func findCalls(e api.Expr, name string, trail []step) []found {
	var l []found
	if isCall(e, name) {
		l = append(l, found{e, trail})
	}
	for at, kid := range e.Kids {
		l = append(l, findCalls(kid, name, append(slices.Clone(trail), step{e, at, 0}))...)
	}
	for at, arm := range e.Arms {
		l = append(l, findCalls(arm.Body, name, append(slices.Clone(trail), step{e, -1, at}))...)
	}
	return l
}

// isParam tells whether a name is a parameter's still at the end of a way.
func isParam(trail []step, name, param string) bool {
	return name == param && !slices.ContainsFunc(trail, func(s step) bool { is, _ := s.gives(name); return is })
}

// isLesser tells whether a name is lesser than a parameter at the end of a way.
func isLesser(trail []step, name, param string) bool {
	for at, s := range slices.Backward(trail) {
		is, part := s.gives(name)
		if !is {
			continue
		}
		if !part || s.e.Kind != api.ExMatch || len(s.e.Kids) != 1 || s.e.Kids[0].Kind != api.ExVar {
			return false
		}
		of := s.e.Kids[0].Name
		return isParam(trail[:at], of, param) || isLesser(trail[:at], of, param)
	}
	return false
}

func isRepeated(f found) bool {
	return slices.ContainsFunc(f.trail, func(s step) bool { return s.e.Kind == api.ExFor && s.kid == 1 })
}

// goesDown tells whether each call of a function goes down by a parameter.
func goesDown(f api.Fun, calls []found, k int) bool {
	return !slices.ContainsFunc(calls, func(c found) bool {
		return len(c.call.Kids) <= k || c.call.Kids[k].Kind != api.ExVar || !isLesser(c.trail, c.call.Kids[k].Name, f.Params[k].Name)
	})
}

func wantDown(f api.Fun) (int, bool) {
	calls := findCalls(f.Body, f.Name, nil)
	if len(calls) == 0 {
		return -1, true
	}
	if slices.Max(ways(f.Body, f.Name)) > 1 || slices.ContainsFunc(calls, isRepeated) {
		return -1, false
	}
	for k := range f.Params {
		if goesDown(f, calls, k) {
			return k, true
		}
	}
	return -1, false
}

func wantCheck(p api.Prog) api.Fault {
	if f := cover.Check(p); f != (api.Fault{}) {
		return f
	}
	for _, f := range p.Funs {
		if _, ok := wantDown(f); !ok {
			return api.Fault{Err: api.ErrLoop, At: f.At}
		}
	}
	return api.Fault{}
}
