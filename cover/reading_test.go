package cover_test

import (
	"slices"

	"handloom/api"
	"handloom/check"
	"handloom/ty"
)

// The chapter's words once more: another reading than the program's, to hold it against. It takes no space apart: it goes through values, such that each value of a type is taken by the same patterns as one of these.

// pending is a pattern, and the value that it is to take.
type pending struct {
	p api.Pat
	v api.Value
}

// wantTakes asks part by part, from the left.
func wantTakes(p api.Pat, v api.Value) ([]api.Bind, bool) {
	var names []api.Bind
	ok := true
	for left := []pending{{p, v}}; len(left) > 0; {
		it := left[len(left)-1]
		left = left[:len(left)-1]
		switch it.p.Kind {
		case api.PtAny:
		case api.PtVar:
			names = append(names, api.Bind{Name: it.p.Name, Value: trim(it.v)})
		case api.PtInt:
			ok = ok && it.v.Kind == api.VaInt && it.v.Num == it.p.Num
		case api.PtCon, api.PtTuple:
			con := it.p.Kind == api.PtCon
			is := con && it.v.Kind == api.VaCon && it.v.Name == it.p.Name || !con && it.v.Kind == api.VaTuple
			if !is || len(it.v.Kids) != len(it.p.Kids) {
				return nil, false
			}
			for at := len(it.p.Kids) - 1; at >= 0; at-- {
				left = append(left, pending{it.p.Kids[at], it.v.Kids[at]})
			}
		default:
			ok = false
		}
	}
	if !ok {
		return nil, false
	}
	return names, true
}

func isTaken(p api.Pat, v api.Value) bool {
	_, ok := wantTakes(p, v)
	return ok
}

// takers is the places of the patterns that take a value.
func takers(pats []api.Pat, v api.Value) []int {
	var l []int
	for at, p := range pats {
		if isTaken(p, v) {
			l = append(l, at)
		}
	}
	return l
}

// reading goes through the values of types, with one value of each type that has any.
type reading struct {
	all  []api.Data
	some map[string]api.Value
}

func newReading(all []api.Data) reading {
	r := reading{all, map[string]api.Value{}}
	for range all {
		for _, d := range all {
			if _, ok := r.some[d.Name]; ok {
				continue
			}
			for _, c := range d.Cons {
				if kids, ok := r.anyOf(c.Fields); ok {
					r.some[d.Name] = conVal(c.Name, kids...)
				}
			}
		}
	}
	return r
}

func (r reading) anyOf(l []api.Type) ([]api.Value, bool) {
	var made []api.Value
	for _, t := range l {
		v, ok := r.any(t)
		if !ok {
			return nil, false
		}
		made = append(made, v)
	}
	return made, true
}

// any is a value of a type.
func (r reading) any(t api.Type) (api.Value, bool) {
	switch t.Kind {
	case api.TyInt:
		return numVal(0), true
	case api.TyBytes:
		return textVal(""), true
	case api.TyTuple:
		kids, ok := r.anyOf(t.Parts)
		return rowVal(kids...), ok
	}
	v, ok := r.some[t.Name]
	return v, ok
}

// through tells a value of each sort that patterns tell apart.
func (r reading) through(t api.Type, pats []api.Pat, tell func(api.Value)) {
	asking := slices.DeleteFunc(slices.Clone(pats), func(p api.Pat) bool { return p.Kind == api.PtAny || p.Kind == api.PtVar })
	if len(asking) == 0 {
		if v, ok := r.any(t); ok {
			tell(v)
		}
		return
	}
	switch t.Kind {
	case api.TyInt:
		other := int64(0)
		seen := map[int64]int{}
		for _, p := range asking {
			if seen[p.Num]++; seen[p.Num] == 1 {
				tell(numVal(p.Num))
			}
		}
		for seen[other] > 0 {
			other++
		}
		tell(numVal(other))
	case api.TyTuple:
		r.rows(t.Parts, kidsOf(asking), nil, func(kids []api.Value) { tell(rowVal(kids...)) })
	case api.TyData:
		for _, c := range r.all[ty.Find(r.all, t.Name)].Cons {
			own := slices.DeleteFunc(slices.Clone(asking), func(p api.Pat) bool { return p.Name != c.Name })
			r.rows(c.Fields, kidsOf(own), nil, func(kids []api.Value) { tell(conVal(c.Name, kids...)) })
		}
	}
}

// kidsOf is the Kids of each pattern.
func kidsOf(pats []api.Pat) [][]api.Pat {
	var l [][]api.Pat
	for _, p := range pats {
		l = append(l, p.Kids)
	}
	return l
}

// rows tells rows of values, of types one by one, behind those that stand ahead.
func (r reading) rows(l []api.Type, kids [][]api.Pat, ahead []api.Value, tell func([]api.Value)) {
	at := len(ahead)
	if at == len(l) {
		tell(ahead)
		return
	}
	var own []api.Pat
	for _, row := range kids {
		own = append(own, row[at])
	}
	r.through(l[at], own, func(v api.Value) { r.rows(l, kids, append(slices.Clone(ahead), v), tell) })
}

// want is whether a value is missing, and which pattern is spare: the first one that is the first taker of no value.
func (r reading) want(t api.Type, pats []api.Pat) (missing bool, spare int) {
	first := map[int]int{}
	r.through(t, pats, func(v api.Value) {
		l := takers(pats, v)
		if len(l) == 0 {
			missing = true
			return
		}
		first[l[0]]++
	})
	for at := range pats {
		if first[at] == 0 {
			return missing, at
		}
	}
	return missing, -1
}

// looking goes through a program, and writes down all that is wrong with its matches, in order.
type looking struct {
	p     api.Prog
	r     reading
	wrong []api.Fault
}

func behind(env []api.Param, more ...api.Param) []api.Param { return slices.Concat(env, more) }

func (l *looking) typeOf(env []api.Param, e api.Expr) api.Type {
	t, f := check.TypeOf(l.p, env, e)
	if f != (api.Fault{}) {
		panic(short(f))
	}
	return t
}

func (l *looking) expr(env []api.Param, e api.Expr) {
	for at, kid := range e.Kids {
		own := env
		if at == 1 && (e.Kind == api.ExLet || e.Kind == api.ExFor) {
			own = behind(env, param(e.Name, l.typeOf(env, e.Kids[0])))
		}
		l.expr(own, kid)
	}
	if e.Kind != api.ExMatch {
		return
	}
	of := l.typeOf(env, e.Kids[0])
	l.match(of, e)
	for _, arm := range e.Arms {
		names, _ := check.Binds(l.r.all, arm.Pat, of)
		l.expr(behind(env, names...), arm.Body)
	}
}

func (l *looking) match(of api.Type, e api.Expr) {
	var pats []api.Pat
	for _, arm := range e.Arms {
		pats = append(pats, arm.Pat)
	}
	if count(pats) > api.MaxPats {
		l.wrong = append(l.wrong, api.Fault{Err: api.ErrMany, At: e.At})
		return
	}
	missing, spare := l.r.want(of, pats)
	if spare >= 0 {
		l.wrong = append(l.wrong, api.Fault{Err: api.ErrSpare, At: pats[spare].At})
	}
	if missing {
		l.wrong = append(l.wrong, api.Fault{Err: api.ErrCover, At: e.At})
	}
}

// count is how many patterns there are, with all of their parts.
func count(pats []api.Pat) int {
	all := len(pats)
	for _, p := range pats {
		all += count(p.Kids)
	}
	return all
}

func wantCheck(p api.Prog) api.Fault {
	if f := check.Check(p); f != (api.Fault{}) {
		return f
	}
	l := looking{p: p, r: newReading(ty.Datas(p))}
	for _, f := range p.Funs {
		l.expr(f.Params, f.Body)
	}
	l.expr(nil, p.Init)
	for _, h := range p.Hands {
		l.expr([]api.Param{param("state", p.State), h.Param}, h.Body)
	}
	return append(l.wrong, api.Fault{})[0]
}
